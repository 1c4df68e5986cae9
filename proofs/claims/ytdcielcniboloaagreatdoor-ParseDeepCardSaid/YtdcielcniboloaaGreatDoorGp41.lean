/- Mathematics of lex: a token ahead of a closing bracket does not hang on what stands behind that bracket. · burinlaw08: two tokens that are the same; two rows of tokens that are alike. · Mathematics of lex: behind a pattern that ends in a closing bracket another one has its own tokens. -/
import Derived.Test.YtdcielcniboloaaGreatDoorGp35
import Derived.Test.YtdcielcniboloaaGreatDoorGp39
import Derived.Test.YtdcielcniboloaaGreatDoorGp40
import Derived.Test.YtdcielcniboloaaGreatDoorGp26
import Derived.Test.YtdcielcniboloaaGreatDoorGp36
namespace Go.Proofs.YtdcielcniboloaaGreatDoor.Lx
open Go.Proofs.YtdcielcniboloaaGreatDoor.Br (Ag)
set_option linter.unusedVariables false
theorem charX_local {n k : Nat} {l m : List Int} {t : Tk} (hb : Utf.Bytes l) (h : Ag n l m) (hx : charX l = .ok t k) (hk : k ≤ n) : charX m = .ok t k := by
  unfold charX at hx ⊢
  by_cases h0 : (Utf.dec l).1 < 0
  · rw [if_pos h0] at hx; cases hx
  · rw [if_neg h0] at hx
    injection hx with e1 e2
    rw [Br.dec_local hb h (by omega) (by omega), if_neg h0, e1, e2]
theorem set_five {n : Nat} {s u : ByteArray} (h : Ag n (Utf.nums s) (Utf.nums u)) (h2 : 2 ≤ n) (h5 : (Br.set s).2.2 = 5) : (Br.set u).2.2 = 5 := by
  have a1 := h.1
  have a2 := h.2.1
  have hs := Utf.nums_length s
  have hp := fun b => Br.propX_cases s b (by omega)
  unfold Br.set at h5 ⊢
  dsimp only at h5 ⊢
  rw [h.getD (k := 0) (by omega), h.getD (k := 1) (by omega), if_neg (show ¬ (Utf.nums u).length = 1 by omega)]
  rw [if_neg (show ¬ (Utf.nums s).length = 1 by omega)] at h5
  by_cases c0 : (Utf.nums s)[0]?.getD 0 ≠ 92
  · rw [if_pos c0] at h5; cases h5
  rw [if_neg c0] at h5 ⊢
  by_cases c1 : (Utf.nums s)[1]?.getD 0 = 80
  · rw [if_pos c1] at h5
    rcases hp true with ⟨_, _, e⟩ | ⟨_, _, e, _⟩ <;> omega
  rw [if_neg c1] at h5 ⊢
  by_cases c2 : (Utf.nums s)[1]?.getD 0 = 112
  · rw [if_pos c2] at h5
    rcases hp false with ⟨_, _, e⟩ | ⟨_, _, e, _⟩ <;> omega
  rw [if_neg c2] at h5 ⊢
  exact h5
theorem escX_local {n k : Nat} {s u : ByteArray} {t : Tk} (h : Ag n (Utf.nums s) (Utf.nums u)) (h2 : 2 ≤ n) (hx : escX s = .ok t k) (hk : k ≤ n) : escX u = .ok t k := by
  unfold escX at hx ⊢
  rw [h.getD (k := 1) (by omega)]
  cases hs : shortX ((Utf.nums s)[1]?.getD 0) with
  | some t' => rw [hs] at hx; exact hx
  | none =>
    rw [hs] at hx
    dsimp only at hx ⊢
    unfold setX at hx ⊢
    by_cases h0 : (Br.set s).2.2 = 0
    · rw [if_pos h0] at hx
      injection hx with e1 e2
      rw [Br.set_local h h0 (by omega), if_pos h0, e1, e2]
    · rw [if_neg h0] at hx
      by_cases h5 : (Br.set s).2.2 = 5
      · rw [if_pos h5] at hx
        have hu := set_five h h2 h5
        rw [if_neg (by omega), if_pos hu]
        unfold numX at hx ⊢
        by_cases hz : (Br.num (Utf.nums s)).2.2 = 0
        · rw [if_pos hz] at hx
          injection hx with e1 e2
          rw [Br.num_local h hz (by omega), if_pos hz, e1, e2]
        · rw [if_neg hz] at hx; cases hx
      · rw [if_neg h5] at hx; cases hx
theorem brackX_local {n k : Nat} {s u : ByteArray} {t : Tk} (h : Ag n (Utf.nums s) (Utf.nums u)) (hx : brackX s = .ok t k) (hk : k ≤ n) : brackX u = .ok t k := by
  unfold brackX at hx ⊢
  cases hb : Br.brack s with
  | bad o c => rw [hb] at hx; cases hx
  | ok Ys e =>
    rw [hb] at hx
    dsimp only at hx
    injection hx with e1 e2
    have := Br.brack_local hb (h.mono (k := e + 1) (by omega))
    rw [this]
    dsimp only
    rw [Br.extract_eq h (a := 0) (b := e + 1) (by omega), e1, e2]
theorem cntX_dec {l : List Int} {v : Int} (h : cntX l = some v) : ∀ x ∈ l, decB x = true := by
  unfold cntX at h
  split at h
  · rename_i c; exact fun x hx => List.all_eq_true.1 c.2.2 x hx
  · cases h
theorem bodyX_dec {b : List Int} {v : Int × Int} (h : bodyX b = some v) : ∀ x ∈ b, decB x = true ∨ x = 44 := by
  unfold bodyX at h
  have hle := Br.upTo_le 44 b
  obtain ⟨j, hj⟩ : ∃ j, Br.upTo 44 b = j := ⟨_, rfl⟩
  have hat := Br.upTo_at 44 b
  rw [hj] at h hle hat
  cases h1 : cntX (b.take j) with
  | none => rw [h1] at h; cases h
  | some lo =>
    rw [h1] at h
    dsimp only at h
    have d1 := cntX_dec h1
    intro x hx
    obtain ⟨i, hi, rfl⟩ := List.getElem_of_mem hx
    rcases Nat.lt_trichotomy i j with g | g | g
    · exact .inl (d1 _ (List.mem_of_getElem? (i := i) (by rw [List.getElem?_take_of_lt g, List.getElem?_eq_getElem hi])))
    · subst g
      have := hat hi
      rw [List.getElem?_eq_getElem hi] at this
      exact .inr (Option.some.inj this)
    · by_cases c1 : j = b.length
      · omega
      rw [if_neg c1] at h
      by_cases c2 : j + 1 = b.length
      · omega
      rw [if_neg c2] at h
      cases h2 : cntX (b.drop (j + 1)) with
      | none => rw [h2] at h; cases h
      | some hi2 =>
        exact .inl (cntX_dec h2 _ (List.mem_of_getElem? (i := i - (j + 1)) (by rw [List.getElem?_drop, show j + 1 + (i - (j + 1)) = i by omega, List.getElem?_eq_getElem hi])))
theorem countsX_local {n : Nat} {l m : List Int} (h : Ag n l m) (hn : l.length = n) (h2 : 2 ≤ n) (hz : l[n - 1]? = some 41) : countsX m = countsX l := by
  have a2 := h.2.1
  have hd := h.drop 1
  have hle := Br.upTo_le 125 (l.drop 1)
  have hle2 := Br.upTo_le 125 (m.drop 1)
  rw [List.length_drop] at hle hle2
  unfold countsX
  rw [List.length_drop, List.length_drop]
  by_cases hf : Br.upTo 125 (l.drop 1) = l.length - 1
  · rw [if_pos hf]
    have hno : ∀ j, j < n - 1 → (m.drop 1)[j]? ≠ some 125 := fun j hj => by
      rw [hd.2.2 j (by omega)]; exact Br.upTo_no 125 _ j (by omega)
    by_cases hg : Br.upTo 125 (m.drop 1) = m.length - 1
    · rw [if_pos hg]
    · rw [if_neg hg]
      have hge : n - 1 ≤ Br.upTo 125 (m.drop 1) := by
        rcases Nat.lt_or_ge (Br.upTo 125 (m.drop 1)) (n - 1) with g | g
        · exact absurd (Br.upTo_at 125 (m.drop 1) (by rw [List.length_drop]; omega)) (hno _ g)
        · exact g
      cases hb : bodyX ((m.drop 1).take (Br.upTo 125 (m.drop 1))) with
      | none => rfl
      | some v =>
        exfalso
        have h41 : ((m.drop 1).take (Br.upTo 125 (m.drop 1)))[n - 2]? = some 41 := by
          rw [List.getElem?_take_of_lt (by omega), hd.2.2 _ (by omega), List.getElem?_drop, show 1 + (n - 2) = n - 1 by omega]; exact hz
        rcases bodyX_dec hb 41 (List.mem_of_getElem? h41) with e | e
        · exact absurd e (by decide)
        · exact absurd e (by decide)
  · have hlt : Br.upTo 125 (l.drop 1) < n - 1 := by omega
    have hat := Br.upTo_at 125 (l.drop 1) (by rw [List.length_drop]; omega)
    have e : Br.upTo 125 (m.drop 1) = Br.upTo 125 (l.drop 1) :=
      Br.upTo_is 125 _ _ ((hd.2.2 _ (by omega)).trans hat) (fun j hj => by rw [hd.2.2 _ (by omega)]; exact Br.upTo_no 125 _ j hj)
    rw [e, if_neg hf, if_neg (by omega), (hd.mono (k := Br.upTo 125 (l.drop 1)) (by omega)).take]
theorem repX_local {n k : Nat} {l m : List Int} {t : Tk} (h : Ag n l m) (hb : boundsX m = boundsX l) (hx : repX l = .ok t k) (hk : k < n) : repX m = .ok t k := by
  unfold repX at hx ⊢
  rw [hb]
  unfold repOf at hx ⊢
  by_cases c : 1000 < (boundsX l).1 ∨ 1000 < (boundsX l).2.1 ∨ ((boundsX l).2.1 ≠ -1 ∧ (boundsX l).2.1 < (boundsX l).1)
  · rw [if_pos c] at hx; cases hx
  rw [if_neg c] at hx ⊢
  by_cases c2 : l[(boundsX l).2.2]?.getD 0 = 63
  · rw [if_pos c2] at hx
    injection hx with e1 e2
    rw [h.getD (by omega), if_pos c2, e1, e2]
  · rw [if_neg c2] at hx
    injection hx with e1 e2
    rw [h.getD (by omega), if_neg c2, e1, e2]
theorem nameAt_local {n : Nat} {l m : List Int} (h : Ag n l m) (hn : l.length = n) (h3 : 3 ≤ n) (hz : l[n - 1]? = some 41) : nameAt m = nameAt l ∧ nameAt l < n := by
  have a2 := h.2.1
  have t3 := (h.mono (k := 3) h3).take
  unfold nameAt
  rw [t3]
  rcases Nat.lt_or_ge n 4 with g | g
  · obtain rfl : n = 3 := by omega
    have hm : m[2]? = some 41 := (h.2.2 2 (by omega)).trans hz
    have n1 : ∀ x : List Int, x[2]? = some 41 → ¬ x.take 4 = [40, 63, 80, 60] := fun x hx e => by
      have := congrArg (fun y => y[2]?) e
      rw [List.getElem?_take_of_lt (by omega), hx] at this
      exact absurd this (by decide)
    have n2 : ¬ l.take 3 = [40, 63, 60] := fun e => by
      have := congrArg (fun y => y[2]?) e
      rw [List.getElem?_take_of_lt (by omega)] at this
      rw [show l[2]? = some 41 from hz] at this
      exact absurd this (by decide)
    rw [if_neg (n1 m hm), if_neg (n1 l hz), if_neg n2]
    exact ⟨rfl, by omega⟩
  · rw [(h.mono (k := 4) g).take]
    refine ⟨rfl, ?_⟩
    by_cases c1 : l.take 4 = [40, 63, 80, 60]
    · rw [if_pos c1]
      rcases Nat.lt_or_ge 4 n with g2 | g2
      · exact g2
      · obtain rfl : n = 4 := by omega
        have := congrArg (fun y => y[3]?) c1
        rw [List.getElem?_take_of_lt (by omega)] at this
        rw [show l[3]? = some 41 from hz] at this
        exact absurd this (by decide)
    · rw [if_neg c1]
      split <;> omega
theorem nameB_no {x : ByteArray} (i : Nat) (h : (Utf.nums x)[i]? = some 41) : Td.nameB x = false := by
  cases hb : Td.nameB x with
  | false => rfl
  | true =>
    unfold Td.nameB at hb
    have h1 := (Bool.and_eq_true_iff.1 hb).1
    have := List.all_eq_true.1 h1 41 (List.mem_of_getElem? (show (Td.bytes x)[i]? = some 41 from h))
    exact absurd this (by decide)
theorem nameX_local {n : Nat} {s u : ByteArray} (h : Ag n (Utf.nums s) (Utf.nums u)) (hn : s.size = n) (h3 : 3 ≤ n) (hz : (Utf.nums s)[n - 1]? = some 41) : nameX u = nameX s := by
  have hs := Utf.nums_length s
  have hu := Utf.nums_length u
  have a2 := h.2.1
  obtain ⟨e1, e2⟩ := nameAt_local h (by omega) h3 hz
  unfold nameX
  dsimp only
  rw [e1]
  obtain ⟨p, hp⟩ : ∃ p, nameAt (Utf.nums s) = p := ⟨_, rfl⟩
  rw [hp] at e2 ⊢
  have hd := h.drop p
  have hle := Br.upTo_le 62 ((Utf.nums s).drop p)
  have hle2 := Br.upTo_le 62 ((Utf.nums u).drop p)
  rw [List.length_drop] at hle hle2
  rw [List.length_drop, List.length_drop]
  by_cases c0 : p = 0
  · rw [if_pos c0, if_pos c0]
  rw [if_neg c0, if_neg c0]
  by_cases hf : Br.upTo 62 ((Utf.nums s).drop p) = (Utf.nums s).length - p
  · rw [if_pos hf]
    have hno : ∀ j, j < n - p → ((Utf.nums u).drop p)[j]? ≠ some 62 := fun j hj => by
      rw [hd.2.2 j (by omega)]; exact Br.upTo_no 62 _ j (by omega)
    by_cases hg : Br.upTo 62 ((Utf.nums u).drop p) = (Utf.nums u).length - p
    · rw [if_pos hg]
    · rw [if_neg hg]
      have hge : n - p ≤ Br.upTo 62 ((Utf.nums u).drop p) := by
        rcases Nat.lt_or_ge (Br.upTo 62 ((Utf.nums u).drop p)) (n - p) with g | g
        · exact absurd (Br.upTo_at 62 ((Utf.nums u).drop p) (by rw [List.length_drop]; omega)) (hno _ g)
        · exact g
      rw [if_neg]
      rw [nameB_no (n - 1 - p) (by
        rw [Utf.nums_extract, List.getElem?_take_of_lt (by omega), List.getElem?_drop, show p + (n - 1 - p) = n - 1 by omega, h.2.2 _ (by omega)]
        exact hz)]
      decide
  · have hlt : Br.upTo 62 ((Utf.nums s).drop p) < n - p := by omega
    have hat := Br.upTo_at 62 ((Utf.nums s).drop p) (by rw [List.length_drop]; omega)
    have e : Br.upTo 62 ((Utf.nums u).drop p) = Br.upTo 62 ((Utf.nums s).drop p) :=
      Br.upTo_is 62 _ _ ((hd.2.2 _ (by omega)).trans hat) (fun j hj => by rw [hd.2.2 _ (by omega)]; exact Br.upTo_no 62 _ j hj)
    rw [e, if_neg hf, if_neg (by omega), Br.extract_eq h (by omega)]
theorem flagX_local {n : Nat} {l m : List Int} (h : Ag n l m) (hn : l.length = n) (h3 : 3 ≤ n) (hz : l[n - 1]? = some 41) : flagX m = flagX l := by
  have a2 := h.2.1
  have hle := upToC_le l
  have hlt : upToC l < n := by
    rcases Nat.lt_or_ge (upToC l) n with g | g
    · exact g
    · exact absurd (.inr (by rw [hz]; rfl)) (upToC_no l (n - 1) (by omega))
  have e : upToC m = upToC l := upToC_is m _ (by omega) (by rw [h.getD hlt]; exact upToC_at l (by omega)) (fun j hj => by rw [h.getD (by omega)]; exact upToC_no l j hj)
  unfold flagX
  rw [e, if_neg (show ¬ upToC l = m.length by omega), if_neg (show ¬ upToC l = l.length by omega), h.getD (k := 2) (by omega), h.getD hlt]
  by_cases c : 2 ≤ upToC l
  · rw [((h.drop 2).mono (k := upToC l - 2) (by omega)).take]
  · rw [show upToC l - 2 = 0 by omega]; simp
theorem openX_local {n : Nat} {s u : ByteArray} (h : Ag n (Utf.nums s) (Utf.nums u)) (hn : s.size = n) (h2 : 2 ≤ n) (hz : (Utf.nums s)[n - 1]? = some 41) : openX u = openX s := by
  have hs := Utf.nums_length s
  unfold openX
  rw [h.getD (k := 1) (by omega)]
  by_cases c : ¬ (Utf.nums s)[1]?.getD 0 = 63
  · rw [if_pos c, if_pos c]
  · rw [if_neg c, if_neg c]
    have h3 : 3 ≤ n := by
      rcases Nat.lt_or_ge n 3 with g | g
      · obtain rfl : n = 2 := by omega
        rw [show (Utf.nums s)[1]? = some 41 from hz] at c
        exact absurd c (by decide)
      · exact g
    rw [nameX_local h hn h3 hz, flagX_local h (by omega) h3 hz]
theorem tok_local {n k : Nat} {s u : ByteArray} {t : Tk} (h : Ag n (Utf.nums s) (Utf.nums u)) (hn : s.size = n) (hz : (Utf.nums s)[n - 1]? = some 41) (hx : tokX s = .ok t k) (hk1 : 1 ≤ k) (hk : k < n) : tokX u = .ok t k := by
  have hs := Utf.nums_length s
  unfold tokX at hx ⊢
  dsimp only at hx ⊢
  rw [h.getD (k := 0) (by omega)]
  by_cases c1 : (Utf.nums s)[0]?.getD 0 = 46
  · rw [if_pos c1] at hx ⊢; exact hx
  rw [if_neg c1] at hx ⊢
  by_cases c2 : (Utf.nums s)[0]?.getD 0 = 94
  · rw [if_pos c2] at hx ⊢; exact hx
  rw [if_neg c2] at hx ⊢
  by_cases c3 : (Utf.nums s)[0]?.getD 0 = 36
  · rw [if_pos c3] at hx ⊢; exact hx
  rw [if_neg c3] at hx ⊢
  by_cases c4 : (Utf.nums s)[0]?.getD 0 = 41
  · rw [if_pos c4] at hx ⊢; exact hx
  rw [if_neg c4] at hx ⊢
  by_cases c5 : (Utf.nums s)[0]?.getD 0 = 124
  · rw [if_pos c5] at hx ⊢; exact hx
  rw [if_neg c5] at hx ⊢
  by_cases c6 : (Utf.nums s)[0]?.getD 0 = 92
  · rw [if_pos c6] at hx ⊢; exact escX_local h (by omega) hx (by omega)
  rw [if_neg c6] at hx ⊢
  by_cases c7 : (Utf.nums s)[0]?.getD 0 = 91
  · rw [if_pos c7] at hx ⊢; exact brackX_local h hx (by omega)
  rw [if_neg c7] at hx ⊢
  by_cases c8 : (Utf.nums s)[0]?.getD 0 = 40
  · rw [if_pos c8] at hx ⊢; rw [openX_local h hn (by omega) hz]; exact hx
  rw [if_neg c8] at hx ⊢
  by_cases c9 : (Utf.nums s)[0]?.getD 0 = 123
  · rw [if_pos c9] at hx ⊢
    have hc := countsX_local h (by omega) (by omega) hz
    rw [hc]
    by_cases c10 : (countsX (Utf.nums s)).2.2 = 0
    · rw [if_pos c10] at hx ⊢; exact charX_local (Utf.nums_bytes s) h hx (by omega)
    · rw [if_neg c10] at hx ⊢
      refine repX_local h ?_ hx hk
      unfold boundsX
      rw [h.getD (k := 0) (by omega), hc]
  rw [if_neg c9] at hx ⊢
  by_cases c10 : (Utf.nums s)[0]?.getD 0 = 42 ∨ (Utf.nums s)[0]?.getD 0 = 43 ∨ (Utf.nums s)[0]?.getD 0 = 63
  · rw [if_pos c10] at hx ⊢
    refine repX_local h ?_ hx hk
    unfold boundsX
    rw [h.getD (k := 0) (by omega)]
    rcases c10 with e | e | e <;> rw [e] <;> rfl
  · rw [if_neg c10] at hx ⊢; exact charX_local (Utf.nums_bytes s) h hx (by omega)
theorem one_local {n k : Nat} {s u : ByteArray} {t : Tk} (q : Bool) (h : Ag n (Utf.nums s) (Utf.nums u)) (hn : s.size = n) (hz : (Utf.nums s)[n - 1]? = some 41) (hx : oneX q s = .ok t k) (hk1 : 1 ≤ k) (hk : k < n) : oneX q u = .ok t k := by
  unfold oneX at hx ⊢
  cases q
  · exact tok_local h hn hz hx hk1 hk
  · exact charX_local (Utf.nums_bytes s) h hx (by omega)
/-- Up to a closing bracket at its end a text has the same tokens whatever stands behind. -/
theorem lexR_join (s t : ByteArray) (hz : (Utf.nums s)[s.size - 1]? = some 41) : ∀ (d k : Nat) (q : Bool) (T T' : List (Int × Tk)), k + d = s.size → 0 < d → lexR s k q T = .ok T' → (∃ tk : Tk, T'.getLast? = some ((s.size : Int) - 1, tk) ∧ tk.kind = 11) → (∀ p ∈ T, p.1 < (k : Int)) → lexR (s ++ t) k q T = lexR (s ++ t) s.size false T' := by
  have hzu : (s ++ t).size = s.size + t.size := ByteArray.size_append ..
  have hs := Utf.nums_length s
  have ht := Utf.nums_length t
  have hag : ∀ k, k ≤ s.size → Ag (s.size - k) (Utf.nums (s.extract k s.size)) (Utf.nums ((s ++ t).extract k (s ++ t).size)) := fun k hk => by
    rw [Br.nums_tail, Br.nums_tail, Br.nums_append']
    refine ⟨by rw [List.length_drop]; omega, by rw [List.length_drop, List.length_append]; omega, fun j hj => ?_⟩
    rw [List.getElem?_drop, List.getElem?_drop, List.getElem?_append_left (by omega)]
  intro d
  induction d using Nat.strongRecOn with
  | ind d ih =>
    intro k q T T' hk hd h hl hp
    have hg := hag k (by omega)
    rw [Br.nums_tail, Br.nums_tail] at hg
    obtain ⟨tl, hl1, hl2⟩ := hl
    have hz1 : (s.extract k s.size).size = s.size - k := by rw [ByteArray.size_extract]; omega
    have hlast : (Utf.nums (s.extract k s.size))[s.size - k - 1]? = some 41 := by
      rw [Br.nums_tail, List.getElem?_drop, show k + (s.size - k - 1) = s.size - 1 by omega]; exact hz
    have hto : ¬ k + 1 < s.size → ∀ q', turnB q' ((Utf.nums s).drop k) = false ∧ turnB q' ((Utf.nums (s ++ t)).drop k) = false := fun hlt q' => by
      have e41 : ((Utf.nums s).drop k)[0]?.getD 0 = 41 := by
        rw [List.getElem?_drop, show k + 0 = s.size - 1 by omega, hz]; rfl
      constructor
      · unfold turnB; rw [e41]; rfl
      · unfold turnB; rw [hg.getD (k := 0) (by omega), e41]; rfl
    have htu : turnB q ((Utf.nums (s ++ t)).drop k) = turnB q ((Utf.nums s).drop k) := by
      by_cases hlt : k + 1 < s.size
      · unfold turnB; rw [hg.getD (k := 0) (by omega), hg.getD (k := 1) (by omega)]
      · rw [(hto hlt q).1, (hto hlt q).2]
    by_cases h2 : turnB q ((Utf.nums s).drop k) = true
    · have hlt : k + 1 < s.size := by
        rcases Nat.lt_or_ge (k + 1) s.size with g | g
        · exact g
        · rw [(hto (by omega) q).1] at h2; cases h2
      rw [lexR_turn (by omega) h2] at h
      rw [lexR_turn (by omega) (htu.trans h2)]
      rcases Nat.lt_or_ge (k + 2) s.size with g | g
      · exact ih (d - 2) (by omega) (k + 2) (!q) T T' (by omega) (by omega) h ⟨tl, hl1, hl2⟩ (fun p hx => by have := hp p hx; omega)
      · rw [lexR_end (by omega)] at h
        injection h with h
        subst h
        have := hp _ (List.mem_of_getLast? hl1)
        dsimp only at this
        omega
    · have h2f : turnB q ((Utf.nums s).drop k) = false := by simpa using h2
      have ho := one_ok q (s.extract k s.size) (by omega)
      cases hx : oneX q (s.extract k s.size) with
      | bad n c => rw [lexR_bad (by omega) h2f hx] at h; cases h
      | ok tk n =>
        rw [hx] at ho
        obtain ⟨o1, o2, _⟩ := ho
        rw [lexR_tok (by omega) h2f hx] at h
        rw [hz1] at o2
        rcases Nat.lt_or_ge (k + n) s.size with g | g
        · have hx2 := one_local q (hag k (by omega)) hz1 hlast hx o1 (by omega)
          rw [lexR_tok (by omega) (htu.trans h2f) hx2]
          exact ih (d - n) (by omega) (k + n) q _ T' (by omega) (by omega) h ⟨tl, hl1, hl2⟩ (fun p hx => by
            rcases List.mem_append.1 hx with hx | hx
            · have := hp p hx; omega
            · simp at hx; subst hx; show (k : Int) < _; omega)
        · rw [lexR_end (by omega)] at h
          injection h with h
          subst h
          rw [List.getLast?_append] at hl1
          simp only [List.getLast?_singleton, Option.some_or] at hl1
          have hl3 := Option.some.inj hl1
          have hk1 : (k : Int) = (s.size : Int) - 1 := congrArg Prod.fst hl3
          have hk2 : tk = tl := congrArg Prod.snd hl3
          subst hk2
          have hkk : k + 1 = s.size := by omega
          have hn1 : n = 1 := by omega
          subst hn1
          have e41 : ((Utf.nums s).drop k)[0]?.getD 0 = 41 := by
            rw [List.getElem?_drop, show k + 0 = s.size - 1 by omega, hz]; rfl
          cases q with
          | true =>
            exfalso
            unfold oneX at hx
            rw [if_pos rfl] at hx
            unfold charX at hx
            split at hx
            · cases hx
            · injection hx with e1 e2
              rw [← e1] at hl2
              exact absurd hl2 (show ¬ (1 : Int) = 11 by decide)
          | false =>
            have f1 : ∀ x : ByteArray, (Utf.nums x)[0]?.getD 0 = 41 → oneX false x = .ok { kind := 11 } 1 := fun x hx => by
              show tokX x = _
              unfold tokX
              dsimp only
              rw [hx]; rfl
            have e1 := f1 (s.extract k s.size) (by rw [Br.nums_tail]; exact e41)
            have e2 := f1 ((s ++ t).extract k (s ++ t).size) (by rw [Br.nums_tail, hg.getD (k := 0) (by omega)]; exact e41)
            rw [hx] at e1
            injection e1 with e1 _
            rw [lexR_tok (by omega) (htu.trans h2f) e2, hkk, e1]
end Go.Proofs.YtdcielcniboloaaGreatDoor.Lx
namespace Go.Proofs.YtdcielcniboloaaGreatDoor
open Go.RowKit
open Lx (Tk TR LR)
set_option linter.unusedVariables false
/-- A token's set, read. -/
def SetRd (W : World) (vs : Value) (c : Br.Cls) : Prop := ∃ out, Br.SetIs c out ∧ RRow W vs out
theorem SetRd.kept {W W' : World} {vs : Value} {c : Br.Cls} (h : SetRd W vs c) (hb : Below W.heap.size W W') : SetRd W' vs c := by
  obtain ⟨out, h1, h2⟩ := h
  exact ⟨out, h1, h2.below (Nat.le_refl _) hb⟩
/-- A value that reads as a list of tokens. -/
def TkRow (W : World) (v : Value) (T : List (Int × Tk)) : Prop :=
  ∃ a cap, v = .slice a T.length cap ∧ ∀ j (hj : j < T.length), ∃ b o0 vs, a = some ⟨b, o0, none⟩ ∧ b < W.heap.size ∧ SetRd W vs T[j].2.cls ∧ ∀ q, q < 8 → W.cell? ⟨b, o0 + j * 8 + q, none⟩ = (TkCells T[j].1 T[j].2 vs)[q]?
theorem TkRow.kept {W W' : World} {v : Value} {T : List (Int × Tk)} (h : TkRow W v T) (hb : Below W.heap.size W W') : TkRow W' v T := by
  obtain ⟨a, cap, e, h⟩ := h
  refine ⟨a, cap, e, fun j hj => ?_⟩
  obtain ⟨b, o0, vs, e1, h1, h2, h3⟩ := h j hj
  exact ⟨b, o0, vs, e1, Nat.lt_of_lt_of_le h1 hb.size, h2.kept hb, fun q hq => (hb.cell (p := ⟨b, o0 + j * 8 + q, none⟩) h1).trans (h3 q hq)⟩
theorem TkOwn.row {W : World} {base : Nat} {v : Value} {T : List (Int × Tk)} (h : TkOwn W base v T) : TkRow W v T := by
  by_cases h0 : 0 < T.length
  · obtain ⟨g, cap, e, _, hg1, hat⟩ := h.at h0
    refine ⟨some ⟨g, 0, none⟩, cap, e, fun j hj => ?_⟩
    obtain ⟨vs, ⟨out, s1, s2, _⟩, h9⟩ := hat j hj
    exact ⟨g, 0, vs, rfl, hg1, ⟨out, s1, s2⟩, fun q hq => by rw [Nat.zero_add]; exact h9 q hq⟩
  · obtain ⟨a, cap, e⟩ := h.slice
    exact ⟨a, cap, e, fun j hj => absurd hj (by omega)⟩
























/-- A list of tokens, its places so much more. -/
def shift (by_ : Int) (T : List (Int × Tk)) : List (Int × Tk) := T.map fun p => (p.1 + by_, p.2)
end Go.Proofs.YtdcielcniboloaaGreatDoor
namespace Go.Proofs.YtdcielcniboloaaGreatDoor.Lx
set_option linter.unusedVariables false
theorem drop_app (P Q : List Int) (k : Nat) : (P ++ Q).drop (P.length + k) = Q.drop k := by
  apply List.ext_getElem?
  intro i
  rw [List.getElem?_drop, List.getElem?_drop, List.getElem?_append_right (by omega), show P.length + k + i - P.length = k + i by omega]
/-- What a text's tokens, or its error, are behind others. -/
def behind (n : Nat) (A : List (Int × Tk)) : LR → LR
  | .bad o c => .bad (o + n) c
  | .ok V => .ok (A ++ shift n V)
theorem lexR_shift (s t : ByteArray) : ∀ (d k : Nat) (q : Bool) (A U : List (Int × Tk)), t.size - k = d →
    lexR (s ++ t) (s.size + k) q (A ++ shift s.size U) = behind s.size A (lexR t k q U) := by
  have hzu : (s ++ t).size = s.size + t.size := ByteArray.size_append ..
  have hs := Utf.nums_length s
  have hdr : ∀ k, (Utf.nums (s ++ t)).drop (s.size + k) = (Utf.nums t).drop k := fun k => by
    rw [Br.nums_append', ← hs]; exact drop_app _ _ k
  have hex : ∀ k, (s ++ t).extract (s.size + k) (s ++ t).size = t.extract k t.size := fun k => by
    apply Br.nums_inj'
    rw [Br.nums_tail, Br.nums_tail, hdr]
  intro d
  induction d using Nat.strongRecOn with
  | ind d ih =>
    intro k q A U hk
    by_cases h1 : t.size ≤ k
    · rw [lexR_end (by omega), lexR_end h1]; rfl
    · by_cases h2 : turnB q ((Utf.nums t).drop k) = true
      · rw [lexR_turn (by omega) h2, lexR_turn (by omega) (by rw [hdr]; exact h2), Nat.add_assoc]
        exact ih (t.size - (k + 2)) (by omega) (k + 2) _ A U rfl
      · have h2f : turnB q ((Utf.nums t).drop k) = false := by simpa using h2
        have hz1 : (t.extract k t.size).size = t.size - k := by rw [ByteArray.size_extract]; omega
        have ho := one_ok q (t.extract k t.size) (by omega)
        cases hx : oneX q (t.extract k t.size) with
        | bad n c =>
          rw [lexR_bad (by omega) h2f hx, lexR_bad (by omega) (by rw [hdr]; exact h2f) (by rw [hex]; exact hx)]
          show LR.bad _ _ = LR.bad _ _
          rw [show ((s.size + k : Nat) : Int) + n = (k : Int) + n + (s.size : Int) by omega]
        | ok tk n =>
          rw [hx] at ho
          obtain ⟨o1, _⟩ := ho
          rw [lexR_tok (by omega) h2f hx, lexR_tok (by omega) (by rw [hdr]; exact h2f) (by rw [hex]; exact hx), Nat.add_assoc]
          have := ih (t.size - (k + n)) (by omega) (k + n) q A (U ++ [((k : Int), tk)]) rfl
          rw [← this]
          congr 1
          unfold shift
          rw [List.map_append, List.append_assoc]
          simp
          omega
/-- Behind a pattern that is a bracket at its end, and all tokens, another one has its own tokens. -/
theorem lex_joined (s t : ByteArray) (hz : (Utf.nums s)[s.size - 1]? = some 41) (h0 : 0 < s.size) {A : List (Int × Tk)} (h : lexR s 0 false [] = .ok A) (hl : ∃ tk : Tk, A.getLast? = some ((s.size : Int) - 1, tk) ∧ tk.kind = 11) :
    lexR (s ++ t) 0 false [] = behind s.size A (lexR t 0 false []) := by
  rw [lexR_join s t hz s.size 0 false [] A (by omega) h0 h hl (by simp)]
  have := lexR_shift s t t.size 0 false A [] (by omega)
  simpa [shift] using this
theorem Ris.all {m : Int} : ∀ {lo : Int} {l : List (Int × Tk)}, Ris m lo l → ∀ p ∈ l, lo < p.1 ∧ p.1 < m
  | _, [], _, p, hp => by simp at hp
  | lo, x :: l, hr, p, hp => by
    rcases List.mem_cons.1 hp with rfl | hp
    · exact ⟨hr.1, hr.2.1⟩
    · have := Ris.all hr.2.2.2.2 p hp
      exact ⟨by have := hr.1; omega, this.2⟩
end Go.Proofs.YtdcielcniboloaaGreatDoor.Lx
namespace Go.Proofs.YtdcielcniboloaaGreatDoor
open Lx (Tk)
/-- The front, and the rest, of a row of tokens. -/
theorem TkRow.front {W : World} {a : Option Addr} {cap c2 : Nat} {A B : List (Int × Tk)} (h : TkRow W (.slice a (A ++ B).length cap) (A ++ B)) : TkRow W (.slice a A.length c2) A := by
  obtain ⟨a1, c1, e, h⟩ := h
  injection e with e1 e2 e3
  subst e1
  refine ⟨a, c2, rfl, fun j hj => ?_⟩
  obtain ⟨b, o0, vs, f1, f2, f3, f4⟩ := h j (by rw [List.length_append]; omega)
  rw [List.getElem_append_left hj] at f3 f4
  exact ⟨b, o0, vs, f1, f2, f3, f4⟩
theorem TkRow.tail {W : World} {g o : Nat} {a : Option Addr} {cap c2 : Nat} {A B : List (Int × Tk)} (h : TkRow W (.slice a (A ++ B).length cap) (A ++ B)) (ha : 0 < B.length → a = some ⟨g, o, none⟩) {a2 : Option Addr} (ha2 : 0 < B.length → a2 = some ⟨g, o + A.length * 8, none⟩) : TkRow W (.slice a2 B.length c2) B := by
  obtain ⟨a1, c1, e, h⟩ := h
  injection e with e1 e2 e3
  subst e1
  refine ⟨a2, c2, rfl, fun j hj => ?_⟩
  obtain ⟨b, o0, vs, f1, f2, f3, f4⟩ := h (A.length + j) (by rw [List.length_append]; omega)
  have ea := ha (by omega)
  rw [ea] at f1
  injection f1 with f1
  injection f1 with g1 g2 g3
  subst g1
  subst g2
  have hg : (A ++ B)[A.length + j]'(by rw [List.length_append]; omega) = B[j] := by
    rw [List.getElem_append_right (by omega)]
    congr 1
    omega
  rw [hg] at f3 f4
  refine ⟨g, o + A.length * 8, vs, ha2 (by omega), f2, f3, fun q hq => ?_⟩
  rw [show o + A.length * 8 + j * 8 + q = o + (A.length + j) * 8 + q by omega]
  exact f4 q hq
end Go.Proofs.YtdcielcniboloaaGreatDoor
