/- Mathematics of bracket: how long escapes and items are. · Mathematics of bracket: what is read does not hang on what stands behind. · Mathematics of bracket: a set written as its numbers; runes between brackets. -/
import Derived.Test.YtanffablfgnioaaGreatDoorGp3
namespace Go.Proofs.YtanffablfgnioaaGreatDoor.Br
open Go.Proofs.YtanffablfgnioaaGreatDoor.Rg
set_option linter.unusedVariables false
theorem getD_lt {l : List Int} {k : Nat} {c : Int} (h : l[k]?.getD 0 = c) (hc : c ≠ 0) : k < l.length := by
  rcases Nat.lt_or_ge k l.length with h1 | h1
  · exact h1
  · rw [List.getElem?_eq_none h1] at h; exact absurd h.symm hc
theorem plain_cases (c : Int) : (plain c = (0, 0, 80)) ∨ (0 ≤ (plain c).1 ∧ (plain c).1 ≤ 126 ∧ (plain c).2.1 = 2 ∧ (plain c).2.2 = 0) := by
  unfold plain
  repeat (split; · exact .inr ⟨by decide, by decide, rfl, rfl⟩)
  split
  · rename_i h
    simp [signB] at h
    exact .inr ⟨by show 0 ≤ c; omega, by show c ≤ 126; omega, rfl, rfl⟩
  · exact .inl rfl
/-- A number's escape: an error without number and length, or two bytes at least. -/
theorem num_cases (l : List Int) : ((num l).1 = 0 ∧ (num l).2.1 = 0 ∧ ((num l).2.2 = 3 ∨ (num l).2.2 = 82 ∨ (num l).2.2 = 80)) ∨ (0 ≤ (num l).1 ∧ (num l).1 ≤ 1114111 ∧ 2 ≤ (num l).2.1 ∧ (num l).2.1 ≤ l.length ∧ (num l).2.2 = 0) := by
  unfold num
  by_cases h0 : l[0]?.getD 0 ≠ 92
  · rw [if_pos h0]; exact .inl ⟨rfl, rfl, .inl rfl⟩
  rw [if_neg h0]
  have h00 : 0 < l.length := getD_lt (c := 92) (by omega) (by decide)
  by_cases h1 : l.length = 1
  · rw [if_pos h1]; exact .inl ⟨rfl, rfl, .inr (.inl rfl)⟩
  rw [if_neg h1]
  by_cases h2 : l[1]?.getD 0 ≠ 120
  · rw [if_pos h2]
    rcases plain_cases (l[1]?.getD 0) with h | ⟨h3, h4, h5, h6⟩
    · rw [h]; exact .inl ⟨rfl, rfl, .inr (.inr rfl)⟩
    · exact .inr ⟨h3, by omega, by omega, by omega, h6⟩
  rw [if_neg h2]
  by_cases h3 : l[2]?.getD 0 = 123
  · rw [if_pos h3]
    unfold braced
    dsimp only
    have hc := cnt_le (l.drop 3) 6
    have hv := val_bd (l.drop 3) 6 _ (Nat.le_refl _)
    rw [List.length_drop] at hc
    have h33 := getD_lt h3 (by decide)
    by_cases h4 : 3 + cnt (l.drop 3) 6 = l.length
    · rw [if_pos h4]; exact .inl ⟨rfl, rfl, .inr (.inl rfl)⟩
    rw [if_neg h4]
    by_cases h5 : l[3 + cnt (l.drop 3) 6]?.getD 0 ≠ 125 ∨ cnt (l.drop 3) 6 = 0 ∨ 1114111 < val (l.drop 3) (cnt (l.drop 3) 6)
    · rw [if_pos h5]; exact .inl ⟨rfl, rfl, .inr (.inr rfl)⟩
    rw [if_neg h5]
    refine .inr ⟨hv.1, ?_, ?_, ?_, rfl⟩
    · show val _ _ ≤ _; omega
    · show (2 : Int) ≤ ((cnt (l.drop 3) 6 : Nat) : Int) + 4; omega
    · show ((cnt (l.drop 3) 6 : Nat) : Int) + 4 ≤ _; omega
  · rw [if_neg h3]
    unfold two
    dsimp only
    have hc := cnt_le (l.drop 2) 2
    rw [List.length_drop] at hc
    by_cases h4 : cnt (l.drop 2) 2 = 2
    · rw [if_pos h4]
      have hv := val_bd (l.drop 2) 2 2 (by omega)
      refine .inr ⟨hv.1, ?_, ?_, ?_, rfl⟩
      · show val _ _ ≤ _; have := hv.2; omega
      · show (2 : Int) ≤ 4; omega
      · show (4 : Int) ≤ _; omega
    rw [if_neg h4]
    by_cases h5 : cnt (l.drop 2) 2 + 2 = l.length
    · rw [if_pos h5]; exact .inl ⟨rfl, rfl, .inr (.inl rfl)⟩
    · rw [if_neg h5]; exact .inl ⟨rfl, rfl, .inr (.inr rfl)⟩
theorem num_form {l : List Int} (h : l[0]?.getD 0 = 92) : (num l).2.2 ≠ 3 := by
  unfold num
  rw [if_neg (by omega)]
  split
  · decide
  split
  · rcases plain_cases (l[1]?.getD 0) with h | h
    · rw [h]; decide
    · rw [h.2.2.2]; decide
  split
  · unfold braced; dsimp only; split
    · decide
    · split <;> simp
  · unfold two; dsimp only; split
    · simp
    · split <;> simp
theorem num_no {l : List Int} (h : l[0]?.getD 0 ≠ 92) : num l = (0, 0, 3) := by unfold num; rw [if_pos h]
theorem nums_len (s : ByteArray) : (Utf.nums s).length = s.size := Utf.nums_length s
theorem nameX_cases (s : ByteArray) (h2 : 2 ≤ s.size) : ((nameX s).2.2 = 82 ∨ (nameX s).2.2 = 70) ∨ ((nameX s).2.2 = 0 ∧ 3 ≤ (nameX s).2.1 ∧ (nameX s).2.1 ≤ s.size) := by
  unfold nameX
  dsimp only
  rw [nums_len]
  by_cases h3 : s.size = 2
  · rw [if_pos h3]; exact .inl (.inl rfl)
  rw [if_neg h3]
  split
  · exact .inr ⟨rfl, Int.le_refl _, by show (3 : Int) ≤ _; omega⟩
  split
  · exact .inl (.inr rfl)
  split
  · exact .inl (.inl rfl)
  · rename_i h
    have := upTo_le 125 ((Utf.nums s).drop 3)
    rw [List.length_drop, nums_len] at h this
    refine .inr ⟨rfl, ?_, ?_⟩
    · show (3 : Int) ≤ ((upTo 125 ((Utf.nums s).drop 3) : Nat) : Int) + 4; omega
    · show ((upTo 125 ((Utf.nums s).drop 3) : Nat) : Int) + 4 ≤ _; omega
theorem propX_cases (s : ByteArray) (neg : Bool) (h2 : 2 ≤ s.size) : ((propX s neg).1 = none ∧ (propX s neg).2.1 = 0 ∧ ((propX s neg).2.2 = 82 ∨ (propX s neg).2.2 = 70)) ∨ (∃ x, (propX s neg).1 = some x ∧ (propX s neg).2.2 = 0 ∧ 3 ≤ (propX s neg).2.1 ∧ (propX s neg).2.1 ≤ s.size) := by
  unfold propX
  rcases nameX_cases s h2 with h | ⟨h, h3, h4⟩
  · rw [if_pos (by omega)]; exact .inl ⟨rfl, rfl, h⟩
  · rw [if_neg (by omega)]
    cases hl : Cl.lookC Cl.propT (nameX s).1.data.toList with
    | none => exact .inl ⟨rfl, rfl, .inr rfl⟩
    | some p => exact .inr ⟨_, rfl, rfl, h3, h4⟩
/-- A set's escape. -/
theorem set_cases (s : ByteArray) : ((set s).1 = none ∧ (set s).2.1 = 0 ∧ ((set s).2.2 = 3 ∨ (set s).2.2 = 5 ∨ (set s).2.2 = 82 ∨ (set s).2.2 = 70)) ∨ (∃ x, (set s).1 = some x ∧ (set s).2.2 = 0 ∧ 2 ≤ (set s).2.1 ∧ (set s).2.1 ≤ s.size) := by
  unfold set
  dsimp only
  by_cases h0 : (Utf.nums s)[0]?.getD 0 ≠ 92
  · rw [if_pos h0]; exact .inl ⟨rfl, rfl, .inl rfl⟩
  rw [if_neg h0]
  have h00 : 0 < (Utf.nums s).length := getD_lt (c := 92) (by omega) (by decide)
  by_cases h1 : (Utf.nums s).length = 1
  · rw [if_pos h1]; exact .inl ⟨rfl, rfl, .inr (.inl rfl)⟩
  rw [if_neg h1]
  rw [nums_len] at h00 h1
  split
  · rcases propX_cases s true (by omega) with ⟨e1, e2, e3⟩ | ⟨x, e1, e2, e3, e4⟩
    · exact .inl ⟨e1, e2, e3.elim (fun e => .inr (.inr (.inl e))) (fun e => .inr (.inr (.inr e)))⟩
    · exact .inr ⟨x, e1, e2, by omega, e4⟩
  split
  · rcases propX_cases s false (by omega) with ⟨e1, e2, e3⟩ | ⟨x, e1, e2, e3, e4⟩
    · exact .inl ⟨e1, e2, e3.elim (fun e => .inr (.inr (.inl e))) (fun e => .inr (.inr (.inr e)))⟩
    · exact .inr ⟨x, e1, e2, by omega, e4⟩
  cases Cl.letterX ((Utf.nums s)[1]?.getD 0) with
  | none => exact .inl ⟨rfl, rfl, .inr (.inl rfl)⟩
  | some x => exact .inr ⟨x, rfl, rfl, Int.le_refl _, by show (2 : Int) ≤ _; omega⟩
theorem one_cases (l : List Int) (hb : Utf.Bytes l) : ((one l).1 = 0 ∧ (one l).2.1 = 0 ∧ ((one l).2.2 = 3 ∨ (one l).2.2 = 82 ∨ (one l).2.2 = 80)) ∨ (0 ≤ (one l).1 ∧ (one l).1 ≤ 1114111 ∧ 1 ≤ (one l).2.1 ∧ (one l).2.1 ≤ l.length ∧ (one l).2.2 = 0) := by
  unfold one
  split
  · rcases num_cases l with h | ⟨h1, h2, h3, h4, h5⟩
    · exact .inl h
    · exact .inr ⟨h1, h2, by omega, h4, h5⟩
  split
  · exact .inl ⟨rfl, rfl, .inl rfl⟩
  · rename_i h
    have h1 := Utf.dec_len l hb
    have h2 := Utf.dec_neg l hb
    have hl : l ≠ [] := by rintro rfl; exact h (by decide)
    exact .inr ⟨by show 0 ≤ (Utf.dec l).1; omega, h2.2.2, h1.2.2.1 hl, h1.2.1, rfl⟩
/-- An item that is read ends behind its beginning, and in the text. -/
theorem item_bd (s : ByteArray) (at_ : Nat) (x : It) (next : Nat) (h : item s at_ = .ok x next) : at_ < next ∧ next ≤ s.size := by
  unfold item at h
  dsimp only at h
  split at h
  · rename_i hc
    have h1 : at_ + 1 < s.size := by
      have := (List.getElem?_eq_some_iff.1 hc.2).1
      rw [List.length_drop, nums_len] at this; omega
    unfold colonX at h
    dsimp only at h
    split at h
    · cases h
    rename_i hn
    have h2 := upTo2_le 58 93 ((Utf.nums s).drop (at_ + 2))
    have h3 := upTo2_at 58 93 ((Utf.nums s).drop (at_ + 2)) (by omega)
    have h4 := (List.getElem?_eq_some_iff.1 h3.2).1
    rw [List.length_drop, nums_len] at h4
    split at h
    · cases h
    · cases h; omega
  split at h
  · rename_i hc
    rcases set_cases (s.extract at_ s.size) with ⟨e1, e2, e3⟩ | ⟨y, e1, e2, e3, e4⟩
    · omega
    · rw [e1] at h
      cases h
      rw [ByteArray.size_extract] at e4
      omega
  split at h
  · cases h
  unfold span at h
  dsimp only at h
  split at h
  · cases h
  have o1 := one_cases ((Utf.nums s).drop at_) (Utf.bytes_drop (Utf.nums_bytes s) _)
  rw [List.length_drop, nums_len] at o1
  split at h
  · cases h; omega
  rename_i hg
  split at h
  · cases h
  split at h
  · cases h
  rename_i ho
  have o2 := one_cases ((Utf.nums s).drop (at_ + (one ((Utf.nums s).drop at_)).2.1.toNat + 1)) (Utf.bytes_drop (Utf.nums_bytes s) _)
  rw [List.length_drop, nums_len] at o2
  split at h
  · cases h
  · cases h; omega
theorem items_fuel (s : ByteArray) (fs : Nat) : ∀ (f g at_ : Nat) (Xs : List It), s.size + 1 - at_ ≤ f → s.size + 1 - at_ ≤ g → items s fs f at_ Xs = items s fs g at_ Xs
  | 0, 0, at_, Xs, _, _ => rfl
  | 0, g + 1, at_, Xs, h, _ => by
    unfold items
    rw [if_pos (by omega)]
  | f + 1, 0, at_, Xs, _, h => by
    unfold items
    rw [if_pos (by omega)]
  | f + 1, g + 1, at_, Xs, hf, hg => by
    unfold items
    by_cases h1 : s.size ≤ at_
    · rw [if_pos h1, if_pos h1]
    rw [if_neg h1, if_neg h1]
    by_cases h2 : (Utf.nums s)[at_]?.getD 0 = 93 ∧ fs < at_
    · rw [if_pos h2, if_pos h2]
    rw [if_neg h2, if_neg h2]
    cases hx : item s at_ with
    | bad o c => rfl
    | ok x next =>
      have := item_bd s at_ x next hx
      exact items_fuel s fs f g next (Xs ++ [x]) (by omega) (by omega)
/-- The items from a place on. -/
def rest (s : ByteArray) (fs at_ : Nat) (Xs : List It) : Res (List It) := items s fs (s.size + 1 - at_) at_ Xs
theorem rest_end {s : ByteArray} {fs at_ : Nat} {Xs : List It} (h : s.size ≤ at_) : rest s fs at_ Xs = .bad s.size 82 := by
  unfold rest
  cases s.size + 1 - at_ with
  | zero => rfl
  | succ k => unfold items; rw [if_pos h]
theorem rest_close {s : ByteArray} {fs at_ : Nat} {Xs : List It} (h : at_ < s.size) (h2 : (Utf.nums s)[at_]?.getD 0 = 93) (h3 : fs < at_) : rest s fs at_ Xs = .ok Xs at_ := by
  unfold rest
  rw [show s.size + 1 - at_ = (s.size - at_) + 1 by omega]
  unfold items; rw [if_neg (by omega), if_pos ⟨h2, h3⟩]
theorem rest_bad {s : ByteArray} {fs at_ : Nat} {Xs : List It} {o c : Int} (h : at_ < s.size) (h2 : ¬ ((Utf.nums s)[at_]?.getD 0 = 93 ∧ fs < at_)) (hx : item s at_ = .bad o c) : rest s fs at_ Xs = .bad o c := by
  unfold rest
  rw [show s.size + 1 - at_ = (s.size - at_) + 1 by omega]
  unfold items; rw [if_neg (by omega), if_neg h2, hx]
theorem rest_step {s : ByteArray} {fs at_ : Nat} {Xs : List It} {x : It} {next : Nat} (h : at_ < s.size) (h2 : ¬ ((Utf.nums s)[at_]?.getD 0 = 93 ∧ fs < at_)) (hx : item s at_ = .ok x next) : rest s fs at_ Xs = rest s fs next (Xs ++ [x]) := by
  have hb := item_bd s at_ x next hx
  unfold rest
  rw [show s.size + 1 - at_ = (s.size - at_) + 1 by omega]
  rw [items, if_neg (by omega), if_neg h2, hx]
  exact items_fuel s fs _ _ next _ (by omega) (Nat.le_refl _)
theorem brack_no {s : ByteArray} (h : (Utf.nums s)[0]?.getD 0 ≠ 91) : brack s = .bad 0 3 := by unfold brack; rw [if_pos h]
theorem brack_yes {s : ByteArray} (h : (Utf.nums s)[0]?.getD 0 = 91) : brack s = rest s (first (Utf.nums s)) (first (Utf.nums s)) [] := by unfold brack rest; rw [if_neg (by omega)]
end Go.Proofs.YtanffablfgnioaaGreatDoor.Br
namespace Go.Proofs.YtanffablfgnioaaGreatDoor.Br
open Go.Proofs.YtanffablfgnioaaGreatDoor.Rg
set_option linter.unusedVariables false
theorem nums_inj' {s t : ByteArray} (h : Utf.nums s = Utf.nums t) : s = t := by
  apply ByteArray.ext
  apply Array.toList_inj.1
  unfold Utf.nums at h
  exact List.map_inj_right (fun a b e => UInt8.toNat_inj.1 (by exact_mod_cast e)) |>.1 h
theorem nums_append' (s t : ByteArray) : Utf.nums (s ++ t) = Utf.nums s ++ Utf.nums t := by
  unfold Utf.nums; rw [ByteArray.data_append, Array.toList_append, List.map_append]
/-- Alike ahead of n. -/
def Ag (n : Nat) (l m : List Int) : Prop := n ≤ l.length ∧ n ≤ m.length ∧ ∀ k, k < n → m[k]? = l[k]?
theorem Ag.mono {n k : Nat} {l m : List Int} (h : Ag n l m) (hk : k ≤ n) : Ag k l m := ⟨by have := h.1; omega, by have := h.2.1; omega, fun j hj => h.2.2 j (by omega)⟩
theorem Ag.drop {n : Nat} {l m : List Int} (h : Ag n l m) (d : Nat) : Ag (n - d) (l.drop d) (m.drop d) :=
  ⟨by have := h.1; simp; omega, by have := h.2.1; simp; omega, fun k hk => by rw [List.getElem?_drop, List.getElem?_drop]; exact h.2.2 _ (by omega)⟩
theorem Ag.take {n : Nat} {l m : List Int} (h : Ag n l m) : m.take n = l.take n := by
  apply List.ext_getElem?
  intro k
  rw [List.getElem?_take, List.getElem?_take]
  split
  · exact h.2.2 k (by assumption)
  · rfl
theorem Ag.getD {n : Nat} {l m : List Int} (h : Ag n l m) {k : Nat} (hk : k < n) : m[k]?.getD 0 = l[k]?.getD 0 := by rw [h.2.2 k hk]
theorem Ag.value {n : Nat} {l m : List Int} (h : Ag n l m) : val m n = val l n := by unfold Br.val; rw [h.take]
/-- A count that ends ahead of the place is the same. -/
theorem Ag.count {n : Nat} {l m : List Int} (h : Ag n l m) (k : Nat) (hk : cnt l k < n ∨ (cnt l k = k ∧ k ≤ n)) : cnt m k = cnt l k := by
  have h1 := cnt_le l k
  refine cnt_ends m k _ h1.1 (by have := h.2.1; omega) (fun j hj => ?_) ?_
  · rw [h.getD (by omega)]; exact cnt_yes l k j hj
  · by_cases e : cnt l k = k
    · exact .inl e
    · refine .inr (.inr ?_)
      rw [h.getD (by omega)]
      exact cnt_no l k (by omega) (by have := h.1; omega)
theorem num_local {n : Nat} {l m : List Int} (h : Ag n l m) (h0 : (num l).2.2 = 0) (hn : (num l).2.1 ≤ n) : num m = num l := by
  have hc := num_cases l
  have h2 : 2 ≤ n := by omega
  unfold num at h0 hn ⊢
  rw [h.getD (k := 0) (by omega), h.getD (k := 1) (by omega)]
  by_cases c0 : l[0]?.getD 0 ≠ 92
  · rw [if_pos c0] at h0; cases h0
  rw [if_neg c0] at h0 hn
  rw [if_neg c0, if_neg c0]
  have a1 := h.1
  have a2 := h.2.1
  rw [if_neg (show ¬ l.length = 1 by omega)] at h0 hn
  rw [if_neg (show ¬ l.length = 1 by omega), if_neg (show ¬ m.length = 1 by omega)]
  by_cases c2 : l[1]?.getD 0 ≠ 120
  · rw [if_pos c2, if_pos c2]
  rw [if_neg c2] at h0 hn
  rw [if_neg c2, if_neg c2]
  by_cases c3 : l[2]?.getD 0 = 123
  · rw [if_pos c3] at h0 hn
    rw [if_pos (show l[2]?.getD 0 = 123 from c3)]
    unfold braced at h0 hn ⊢
    dsimp only at h0 hn ⊢
    by_cases c4 : 3 + cnt (l.drop 3) 6 = l.length
    · rw [if_pos c4] at h0; cases h0
    rw [if_neg c4] at h0 hn
    by_cases c5 : l[3 + cnt (l.drop 3) 6]?.getD 0 ≠ 125 ∨ cnt (l.drop 3) 6 = 0 ∨ 1114111 < val (l.drop 3) (cnt (l.drop 3) 6)
    · rw [if_pos c5] at h0; cases h0
    rw [if_neg c5] at hn
    have hn' : cnt (l.drop 3) 6 + 4 ≤ n := by have : ((cnt (l.drop 3) 6 : Nat) : Int) + 4 ≤ n := hn; omega
    have e := (h.drop 3).count 6 (.inl (by omega))
    have ev := ((h.drop 3).mono (k := cnt (l.drop 3) 6) (by omega)).value
    rw [h.getD (k := 2) (by omega), if_pos c3, e, ev, h.getD (k := 3 + cnt (l.drop 3) 6) (by omega), if_neg (by omega), if_neg c4]
  · rw [if_neg c3] at h0 hn
    rw [if_neg (show ¬ l[2]?.getD 0 = 123 from c3)]
    unfold two at h0 hn ⊢
    dsimp only at h0 hn ⊢
    by_cases c4 : cnt (l.drop 2) 2 = 2
    · rw [if_pos c4] at hn
      have hn' : 4 ≤ n := by have : (4 : Int) ≤ n := hn; omega
      have e := (h.drop 2).count 2 (.inr ⟨c4, by omega⟩)
      have ev := ((h.drop 2).mono (k := 2) (by omega)).value
      rw [h.getD (k := 2) (by omega), if_neg c3, e, ev]
      rw [if_pos c4, if_pos c4]
    rw [if_neg c4] at h0
    split at h0 <;> cases h0
theorem dec_local {n : Nat} {l m : List Int} (hb : Utf.Bytes l) (h : Ag n l m) (h0 : 0 ≤ (Utf.dec l).1) (hn : (Utf.dec l).2 ≤ n) : Utf.dec m = Utf.dec l := by
  rcases Utf.dec_some l hb with ⟨_, e⟩ | ⟨_, e⟩ | ⟨hw, hl, t, ht⟩
  · rw [e] at h0; exact absurd h0 (by decide)
  · rw [e] at h0; exact absurd h0 (by decide)
  · have hlen := Utf.encN_length (Utf.dec l).1
    have hk : (Utf.encN (Utf.dec l).1).length ≤ n := by omega
    have e1 := (h.mono hk).take
    have e2 : l.take (Utf.encN (Utf.dec l).1).length = Utf.encN (Utf.dec l).1 := by
      have key : ∀ (E t : List Int), l = E ++ t → l.take E.length = E := fun E t h => by rw [h]; simp
      exact key _ t ht
    have e3 : m = Utf.encN (Utf.dec l).1 ++ m.drop (Utf.encN (Utf.dec l).1).length := by
      conv => lhs; rw [← List.take_append_drop (Utf.encN (Utf.dec l).1).length m, e1, e2]
    rw [e3, Utf.dec_enc _ hw, ← hl]
theorem one_local {n : Nat} {l m : List Int} (hb : Utf.Bytes l) (h : Ag n l m) (h0 : (one l).2.2 = 0) (hn : (one l).2.1 ≤ n) : one m = one l := by
  have hc := one_cases l hb
  have h1 : 1 ≤ n := by omega
  unfold one at h0 hn ⊢
  rw [h.getD (k := 0) (by omega)]
  split
  · rename_i c
    rw [if_pos c] at h0 hn
    exact num_local h h0 hn
  · rename_i c
    rw [if_neg c] at h0 hn
    split at h0
    · cases h0
    · rename_i c2
      rw [if_neg c2] at hn
      rw [dec_local hb h (by omega) hn]
theorem extract_eq {n a b : Nat} {s u : ByteArray} (h : Ag n (Utf.nums s) (Utf.nums u)) (hb : b ≤ n) : u.extract a b = s.extract a b := by
  apply nums_inj'
  rw [Utf.nums_extract, Utf.nums_extract]
  by_cases hab : a ≤ b
  · exact (((h.mono hb).drop a).take)
  · rw [show b - a = 0 by omega]; simp
theorem nameX_local {n : Nat} {s u : ByteArray} (h : Ag n (Utf.nums s) (Utf.nums u)) (h0 : (nameX s).2.2 = 0) (hn : (nameX s).2.1 ≤ n) (h2 : 2 ≤ s.size) : nameX u = nameX s := by
  have hc := nameX_cases s h2
  have h3 : 3 ≤ n := by omega
  have a1 := h.1
  have a2 := h.2.1
  unfold nameX at h0 hn ⊢
  dsimp only at h0 hn ⊢
  rw [h.getD (k := 2) (by omega)]
  rw [if_neg (by omega)] at h0 hn
  rw [if_neg (by omega)]
  rw [if_neg (show ¬ (Utf.nums s).length = 2 by omega)]
  by_cases c1 : letB ((Utf.nums s)[2]?.getD 0) = true
  · rw [if_pos c1, if_pos c1, extract_eq h (by omega)]
  rw [if_neg c1] at h0 hn
  rw [if_neg c1, if_neg c1]
  by_cases c2 : (Utf.nums s)[2]?.getD 0 ≠ 123
  · rw [if_pos c2] at h0; cases h0
  rw [if_neg c2] at h0 hn
  rw [if_neg c2, if_neg c2]
  by_cases c3 : upTo 125 ((Utf.nums s).drop 3) = ((Utf.nums s).drop 3).length
  · rw [if_pos c3] at h0; cases h0
  rw [if_neg c3] at hn
  have hk : upTo 125 ((Utf.nums s).drop 3) + 4 ≤ n := by have : ((upTo 125 ((Utf.nums s).drop 3) : Nat) : Int) + 4 ≤ n := hn; omega
  have h4 := upTo_le 125 ((Utf.nums s).drop 3)
  have h5 := upTo_at 125 ((Utf.nums s).drop 3) (by omega)
  have hd := h.drop 3
  have e : upTo 125 ((Utf.nums u).drop 3) = upTo 125 ((Utf.nums s).drop 3) :=
    upTo_is 125 _ _ ((hd.2.2 _ (by omega)).trans h5) (fun j hj => by rw [hd.2.2 _ (by omega)]; exact upTo_no 125 _ j hj)
  have hl := hd.2.1
  rw [e, if_neg c3, if_neg (by omega), extract_eq h (by omega)]
theorem propX_local {n : Nat} {s u : ByteArray} (neg : Bool) (h : Ag n (Utf.nums s) (Utf.nums u)) (h0 : (propX s neg).2.2 = 0) (hn : (propX s neg).2.1 ≤ n) (h2 : 2 ≤ s.size) : propX u neg = propX s neg := by
  have key : (nameX s).2.2 = 0 ∧ (nameX s).2.1 ≤ n := by
    unfold propX at h0 hn
    split at h0
    · rename_i c
      exact absurd h0 c
    · rename_i c
      rw [if_neg c] at hn
      cases hl : Cl.lookC Cl.propT (nameX s).1.data.toList with
      | none => rw [hl] at h0; cases h0
      | some p => rw [hl] at hn; exact ⟨by omega, hn⟩
  unfold propX
  rw [nameX_local h key.1 key.2 h2]
theorem set_local {n : Nat} {s u : ByteArray} (h : Ag n (Utf.nums s) (Utf.nums u)) (h0 : (set s).2.2 = 0) (hn : (set s).2.1 ≤ n) : set u = set s := by
  have hc := set_cases s
  have h2 : 2 ≤ n := by rcases hc with hc | ⟨x, _, _, hc, _⟩ <;> omega
  have a1 := h.1
  have a2 := h.2.1
  have hs : 2 ≤ s.size := by rw [nums_len] at a1; omega
  unfold set at h0 hn ⊢
  dsimp only at h0 hn ⊢
  rw [h.getD (k := 0) (by omega), h.getD (k := 1) (by omega)]
  by_cases c0 : (Utf.nums s)[0]?.getD 0 ≠ 92
  · rw [if_pos c0] at h0; cases h0
  rw [if_neg c0] at h0 hn
  rw [if_neg c0, if_neg c0]
  rw [if_neg (show ¬ (Utf.nums s).length = 1 by omega)] at h0 hn
  rw [if_neg (show ¬ (Utf.nums s).length = 1 by omega), if_neg (show ¬ (Utf.nums u).length = 1 by omega)]
  by_cases c1 : (Utf.nums s)[1]?.getD 0 = 80
  · rw [if_pos c1] at h0 hn; rw [if_pos c1, if_pos c1]; exact propX_local true h h0 hn hs
  rw [if_neg c1] at h0 hn
  rw [if_neg c1, if_neg c1]
  by_cases c2 : (Utf.nums s)[1]?.getD 0 = 112
  · rw [if_pos c2] at h0 hn; rw [if_pos c2, if_pos c2]; exact propX_local false h h0 hn hs
  rw [if_neg c2, if_neg c2]
/-- Where a character is read, and no set's escape stands there, none stands there with another text behind. -/
theorem set_none {n : Nat} {s u : ByteArray} (h : Ag n (Utf.nums s) (Utf.nums u)) (h1 : 1 ≤ n) (hs : (set s).2.2 = 3 ∨ (set s).2.2 = 5) (h0 : (one (Utf.nums s)).2.2 = 0) (hn : (one (Utf.nums s)).2.1 ≤ n) : (set u).2.2 = 3 ∨ (set u).2.2 = 5 := by
  have a1 := h.1
  have a2 := h.2.1
  unfold set at hs ⊢
  dsimp only at hs ⊢
  rw [h.getD (k := 0) (by omega)]
  by_cases c0 : (Utf.nums s)[0]?.getD 0 ≠ 92
  · rw [if_pos c0]; exact .inl rfl
  rw [if_neg c0] at hs
  rw [if_neg c0]
  have h2 : 2 ≤ n := by
    unfold one at h0 hn
    rw [if_pos (by omega)] at h0 hn
    have := num_cases (Utf.nums s)
    omega
  rw [if_neg (show ¬ (Utf.nums s).length = 1 by omega)] at hs
  rw [if_neg (show ¬ (Utf.nums u).length = 1 by omega), h.getD (k := 1) (by omega)]
  rw [nums_len] at a1
  by_cases c1 : (Utf.nums s)[1]?.getD 0 = 80
  · rw [if_pos c1] at hs; rcases propX_cases s true (by omega) with h | ⟨x, _, h, _⟩ <;> omega
  rw [if_neg c1] at hs
  rw [if_neg c1]
  by_cases c2 : (Utf.nums s)[1]?.getD 0 = 112
  · rw [if_pos c2] at hs; rcases propX_cases s false (by omega) with h | ⟨x, _, h, _⟩ <;> omega
  rw [if_neg c2] at hs
  rw [if_neg c2]
  cases hl : Cl.letterX ((Utf.nums s)[1]?.getD 0) with
  | none => exact .inr rfl
  | some x => rw [hl] at hs; rcases hs with hs | hs <;> cases hs
theorem nums_tail (s : ByteArray) (a : Nat) : Utf.nums (s.extract a s.size) = (Utf.nums s).drop a := by
  rw [Utf.nums_extract, List.take_of_length_le]
  rw [List.length_drop, nums_len]; omega
theorem item_local {n : Nat} {s u : ByteArray} (h : Ag n (Utf.nums s) (Utf.nums u)) (hz : (Utf.nums s)[n - 1]?.getD 0 = 93) {at_ next : Nat} {x : It} (hx : item s at_ = .ok x next) (hn : next < n) : item u at_ = .ok x next := by
  have hbd := item_bd s at_ x next hx
  have hA : Ag (n - at_) ((Utf.nums s).drop at_) ((Utf.nums u).drop at_) := h.drop at_
  have hT : Ag (n - at_) (Utf.nums (s.extract at_ s.size)) (Utf.nums (u.extract at_ u.size)) := by rw [nums_tail, nums_tail]; exact hA
  unfold item at hx ⊢
  dsimp only at hx ⊢
  rw [hA.2.2 0 (by omega), hA.2.2 1 (by omega)]
  by_cases c0 : ((Utf.nums s).drop at_)[0]? = some 91 ∧ ((Utf.nums s).drop at_)[1]? = some 58
  · rw [if_pos c0] at hx ⊢
    unfold colonX at hx ⊢
    dsimp only at hx ⊢
    by_cases c1 : upTo2 58 93 ((Utf.nums s).drop (at_ + 2)) = ((Utf.nums s).drop (at_ + 2)).length
    · rw [if_pos c1] at hx; cases hx
    rw [if_neg c1] at hx
    have h4 := upTo2_le 58 93 ((Utf.nums s).drop (at_ + 2))
    have h5 := upTo2_at 58 93 ((Utf.nums s).drop (at_ + 2)) (by omega)
    cases hl : Cl.lookC Cl.colonT (s.extract (at_ + 2) (at_ + 2 + upTo2 58 93 ((Utf.nums s).drop (at_ + 2)))).data.toList with
    | none => rw [hl] at hx; cases hx
    | some y =>
      rw [hl] at hx
      have hnx : at_ + 4 + upTo2 58 93 ((Utf.nums s).drop (at_ + 2)) = next := by cases hx; rfl
      have hd := h.drop (at_ + 2)
      have e : upTo2 58 93 ((Utf.nums u).drop (at_ + 2)) = upTo2 58 93 ((Utf.nums s).drop (at_ + 2)) :=
        upTo2_is 58 93 _ _ ((hd.2.2 _ (by omega)).trans h5.1) ((hd.2.2 _ (by omega)).trans h5.2) (fun j hj => by rw [hd.2.2 _ (by omega), hd.2.2 _ (by omega)]; exact upTo2_no 58 93 _ j hj)
      have hl2 := hd.2.1
      rw [e, if_neg (by omega), extract_eq h (by omega), hl]
      exact hx
  rw [if_neg c0] at hx ⊢
  by_cases c1 : (set (s.extract at_ s.size)).2.2 = 0
  · rw [if_pos c1] at hx
    rcases set_cases (s.extract at_ s.size) with ⟨e1, e2, e3⟩ | ⟨y, e1, e2, e3, e4⟩
    · omega
    · rw [e1] at hx
      dsimp only at hx
      have hnx : at_ + (set (s.extract at_ s.size)).2.1.toNat = next := by cases hx; rfl
      have e := set_local hT c1 (by omega)
      rw [e, if_pos c1, e1]
      exact hx
  rw [if_neg c1] at hx
  by_cases c2 : (set (s.extract at_ s.size)).2.2 ≠ 3 ∧ (set (s.extract at_ s.size)).2.2 ≠ 5
  · rw [if_pos c2] at hx; cases hx
  rw [if_neg c2] at hx
  have hbn := Utf.bytes_drop (Utf.nums_bytes s)
  have hsp : span u at_ = .ok x next ∧ (one ((Utf.nums s).drop at_)).2.2 = 0 ∧ (one ((Utf.nums s).drop at_)).2.1 ≤ (n - at_ : Nat) := by
    unfold span at hx ⊢
    dsimp only at hx ⊢
    by_cases c3 : (one ((Utf.nums s).drop at_)).2.2 ≠ 0
    · rw [if_pos c3] at hx; cases hx
    rw [if_neg c3] at hx
    have o1 := one_cases ((Utf.nums s).drop at_) (hbn _)
    obtain ⟨e, he⟩ : ∃ e, at_ + (one ((Utf.nums s).drop at_)).2.1.toNat = e := ⟨_, rfl⟩
    rw [he] at hx
    have hE : Ag (n - e) ((Utf.nums s).drop e) ((Utf.nums u).drop e) := h.drop e
    have hen : e ≤ next := by
      split at hx
      · cases hx; omega
      split at hx
      · cases hx
      split at hx
      · cases hx
      split at hx
      · cases hx
      · cases hx; omega
    have eo := one_local (hbn at_) hA (by omega) (by omega)
    refine ⟨?_, by omega, by omega⟩
    rw [eo, if_neg c3, he]
    have hgo : goesOn ((Utf.nums u).drop e) = goesOn ((Utf.nums s).drop e) := by
      by_cases en : e + 1 < n
      · unfold goesOn
        rw [hE.2.2 0 (by omega), hE.2.2 1 (by omega)]
        have := hE.1
        have := hE.2.1
        rw [decide_eq_true (show 2 ≤ ((Utf.nums s).drop e).length by omega), decide_eq_true (show 2 ≤ ((Utf.nums u).drop e).length by omega)]
      · obtain rfl : e = n - 1 := by omega
        have hsz := h.1
        have h93 : ((Utf.nums s).drop (n - 1))[0]? = some 93 := by
          rw [List.getElem?_drop, Nat.add_zero]
          rw [List.getElem?_eq_getElem (by omega)] at hz ⊢
          exact congrArg some hz
        unfold goesOn
        rw [hE.2.2 0 (by omega), h93]
        simp
    by_cases c4 : goesOn ((Utf.nums s).drop e) = false
    · rw [if_pos c4] at hx; rw [hgo, if_pos c4]; exact hx
    rw [if_neg c4] at hx
    rw [hgo, if_neg c4]
    by_cases c5 : (set (s.extract (e + 1) s.size)).2.2 ≠ 3 ∧ (set (s.extract (e + 1) s.size)).2.2 ≠ 5
    · rw [if_pos c5] at hx; cases hx
    rw [if_neg c5] at hx
    by_cases c6 : (one ((Utf.nums s).drop (e + 1))).2.2 ≠ 0
    · rw [if_pos c6] at hx; cases hx
    rw [if_neg c6] at hx
    have o2 := one_cases ((Utf.nums s).drop (e + 1)) (hbn _)
    by_cases c7 : (one ((Utf.nums s).drop (e + 1))).1 < (one ((Utf.nums s).drop at_)).1
    · rw [if_pos c7] at hx; cases hx
    rw [if_neg c7] at hx
    have hnx : e + 1 + (one ((Utf.nums s).drop (e + 1))).2.1.toNat = next := by cases hx; rfl
    have hE1 : Ag (n - (e + 1)) ((Utf.nums s).drop (e + 1)) ((Utf.nums u).drop (e + 1)) := h.drop _
    have hT1 : Ag (n - (e + 1)) (Utf.nums (s.extract (e + 1) s.size)) (Utf.nums (u.extract (e + 1) u.size)) := by rw [nums_tail, nums_tail]; exact hE1
    have hs1 := set_none hT1 (by omega) (by omega) (by rw [nums_tail]; omega) (by rw [nums_tail]; omega)
    rw [if_neg (by omega), one_local (hbn _) hE1 (by omega) (by omega), if_neg c6, if_neg c7]
    exact hx
  have hs0 := set_none hT (by omega) (by omega) (by rw [nums_tail]; exact hsp.2.1) (by rw [nums_tail]; exact hsp.2.2)
  rw [if_neg (by omega), if_neg (by omega)]
  exact hsp.1
theorem items_close (s : ByteArray) (fs : Nat) : ∀ (f at_ : Nat) (Xs Ys : List It) (e : Nat), items s fs f at_ Xs = .ok Ys e → at_ ≤ e ∧ e < s.size ∧ (Utf.nums s)[e]?.getD 0 = 93 ∧ fs < e
  | 0, at_, Xs, Ys, e, h => by cases h
  | f + 1, at_, Xs, Ys, e, h => by
    unfold items at h
    split at h
    · cases h
    rename_i h1
    split at h
    · rename_i h2; cases h; exact ⟨Nat.le_refl _, by omega, h2.1, h2.2⟩
    cases hx : item s at_ with
    | bad o c => rw [hx] at h; cases h
    | ok x next =>
      rw [hx] at h
      have := items_close s fs f next _ Ys e h
      have := item_bd s at_ x next hx
      exact ⟨by omega, by omega, by omega, by omega⟩
theorem items_local {s u : ByteArray} {fs e : Nat} {Ys : List It} (h : Ag (e + 1) (Utf.nums s) (Utf.nums u)) : ∀ (f at_ : Nat) (Xs : List It), items s fs f at_ Xs = .ok Ys e → items u fs f at_ Xs = .ok Ys e
  | 0, at_, Xs, hi => by cases hi
  | f + 1, at_, Xs, hi => by
    have hc := items_close s fs (f + 1) at_ Xs Ys e hi
    have hu := h.2.1
    rw [nums_len] at hu
    unfold items at hi ⊢
    rw [if_neg (by omega)] at hi ⊢
    rw [h.getD (k := at_) (by omega)]
    by_cases h2 : (Utf.nums s)[at_]?.getD 0 = 93 ∧ fs < at_
    · rw [if_pos h2] at hi ⊢; exact hi
    rw [if_neg h2] at hi ⊢
    cases hx : item s at_ with
    | bad o c => rw [hx] at hi; cases hi
    | ok x next =>
      rw [hx] at hi
      have hcn := items_close s fs f next _ Ys e hi
      rw [item_local h (by simpa using hc.2.2.1) hx (by omega)]
      exact items_local h f next _ hi
/-- What is read between brackets is read so whatever stands behind them. -/
theorem brack_local {s u : ByteArray} {Ys : List It} {e : Nat} (hs : brack s = .ok Ys e) (h : Ag (e + 1) (Utf.nums s) (Utf.nums u)) : brack u = .ok Ys e := by
  by_cases h0 : (Utf.nums s)[0]?.getD 0 = 91
  · have hu0 : (Utf.nums u)[0]?.getD 0 = 91 := by rw [h.getD (by omega)]; exact h0
    rw [brack_yes h0] at hs
    have hc := items_close s _ _ _ _ Ys e hs
    have hf : first (Utf.nums u) = first (Utf.nums s) := by unfold first; rw [h.getD (k := 1) (by unfold first at hc; split at hc <;> omega)]
    rw [brack_yes hu0, hf]
    have hu := h.2.1
    rw [nums_len] at hu
    unfold rest at hs ⊢
    refine Eq.trans (items_fuel u _ _ (max (s.size + 1 - first (Utf.nums s)) (u.size + 1 - first (Utf.nums s))) _ _ (Nat.le_refl _) (by omega)) ?_
    refine items_local h _ _ _ ?_
    rw [← hs]
    exact items_fuel s _ _ _ _ _ (by omega) (Nat.le_refl _)
  · rw [brack_no h0] at hs; cases hs
theorem brack_close {s : ByteArray} {Ys : List It} {e : Nat} (hs : brack s = .ok Ys e) : 2 ≤ e ∧ e < s.size ∧ (Utf.nums s)[e]?.getD 0 = 93 ∧ (Utf.nums s)[0]?.getD 0 = 91 := by
  by_cases h0 : (Utf.nums s)[0]?.getD 0 = 91
  · rw [brack_yes h0] at hs
    have hc := items_close s _ _ _ _ Ys e hs
    have : 1 ≤ first (Utf.nums s) := by unfold first; split <;> omega
    exact ⟨by omega, hc.2.1, hc.2.2.1, h0⟩
  · rw [brack_no h0] at hs; cases hs
end Go.Proofs.YtanffablfgnioaaGreatDoor.Br
namespace Go.Proofs.YtanffablfgnioaaGreatDoor.Br
open Go.Proofs.YtanffablfgnioaaGreatDoor.Rg
set_option linter.unusedVariables false
/-- A digit's sign. -/
def hd (d : Nat) : Int := if d < 10 then 48 + d else 87 + d
def hexL (n : Nat) : List Int := if h : n < 16 then [hd n] else hexL (n / 16) ++ [hd (n % 16)]
termination_by n
decreasing_by omega
theorem hexL_small {n : Nat} (h : n < 16) : hexL n = [hd n] := by rw [hexL, dif_pos h]
theorem hexL_big {n : Nat} (h : ¬ n < 16) : hexL n = hexL (n / 16) ++ [hd (n % 16)] := by rw [hexL, dif_neg h]
theorem dig_hd {d : Nat} (h : d < 16) : dig (hd d) = d := by
  unfold hd
  split
  · unfold dig; rw [if_pos (by omega)]; omega
  · unfold dig; rw [if_neg (by omega), if_pos (by omega)]; omega
theorem hd_bd {d : Nat} (h : d < 16) : 48 ≤ hd d ∧ hd d ≤ 102 := by unfold hd; split <;> omega
theorem hexL_all (n : Nat) : ∀ x ∈ hexL n, 0 ≤ dig x ∧ 48 ≤ x ∧ x ≤ 102 := by
  induction n using Nat.strongRecOn with
  | _ n ih =>
    by_cases h : n < 16
    · rw [hexL_small h]
      intro x hx
      rw [List.mem_singleton] at hx
      subst hx
      exact ⟨by rw [dig_hd h]; omega, hd_bd h⟩
    · rw [hexL_big h]
      intro x hx
      rcases List.mem_append.1 hx with hx | hx
      · exact ih _ (by omega) x hx
      · rw [List.mem_singleton] at hx
        subst hx
        exact ⟨by rw [dig_hd (by omega)]; omega, hd_bd (by omega)⟩
theorem hexL_val (n : Nat) : (hexL n).foldl (fun a x => a * 16 + dig x) 0 = n := by
  induction n using Nat.strongRecOn with
  | _ n ih =>
    by_cases h : n < 16
    · rw [hexL_small h]
      show 0 * 16 + dig (hd n) = n
      rw [dig_hd h]; omega
    · rw [hexL_big h, List.foldl_append, ih _ (by omega)]
      show ((n / 16 : Nat) : Int) * 16 + dig (hd (n % 16)) = n
      rw [dig_hd (by omega)]; omega
theorem hexL_len : ∀ (k n : Nat), n < 16 ^ (k + 1) → 1 ≤ (hexL n).length ∧ (hexL n).length ≤ k + 1
  | 0, n, h => by rw [hexL_small (by simpa using h)]; simp
  | k + 1, n, h => by
    by_cases hn : n < 16
    · rw [hexL_small hn]; simp
    · rw [hexL_big hn]
      have := hexL_len k (n / 16) (by rw [Nat.pow_succ] at h; omega)
      simp; omega
theorem hexL6 {n : Nat} (h : n ≤ 1114111) : 1 ≤ (hexL n).length ∧ (hexL n).length ≤ 6 := hexL_len 5 n (by omega)
/-- A number written as an escape. -/
def esc (n : Nat) : List Int := 92 :: 120 :: 123 :: (hexL n ++ [125])
theorem esc_len (n : Nat) : (esc n).length = (hexL n).length + 4 := by unfold esc; simp
theorem num_esc {n : Nat} (h : n ≤ 1114111) (t : List Int) : num (esc n ++ t) = ((n : Int), ((esc n).length : Int), 0) := by
  have h6 := hexL6 h
  have hl := esc_len n
  have e : esc n ++ t = 92 :: 120 :: 123 :: (hexL n ++ 125 :: t) := by unfold esc; simp
  rw [e]
  unfold num
  rw [if_neg (by simp), if_neg (by simp), if_neg (by simp), if_pos (by simp)]
  unfold braced
  dsimp only
  have hd3 : (92 :: 120 :: 123 :: (hexL n ++ 125 :: t)).drop 3 = hexL n ++ 125 :: t := rfl
  rw [hd3]
  have hc : cnt (hexL n ++ 125 :: t) 6 = (hexL n).length := cnt_ends _ _ _ h6.2 (by simp) (fun j hj => by
    rw [List.getElem?_append_left hj, List.getElem?_eq_getElem hj]
    exact (hexL_all n _ (List.getElem_mem hj)).1) (.inr (.inr (by rw [List.getElem?_append_right (Nat.le_refl _), Nat.sub_self]; show dig 125 < 0; decide)))
  have hv : val (hexL n ++ 125 :: t) (hexL n).length = n := by
    unfold val
    rw [List.take_append_of_le_length (Nat.le_refl _), List.take_length]
    exact hexL_val n
  have hk : (92 :: 120 :: 123 :: (hexL n ++ 125 :: t))[3 + (hexL n).length]?.getD 0 = 125 := by
    rw [show 3 + (hexL n).length = (hexL n).length + 1 + 1 + 1 by omega]
    simp
  rw [hc, hv, hk, if_neg (by simp; omega), if_neg (by omega), hl]
  simp
theorem set_esc {s : ByteArray} {t : List Int} (h : Utf.nums s = 92 :: 120 :: t) : set s = (none, 0, 5) := by
  unfold set
  dsimp only
  rw [h, if_neg (by simp), if_neg (by simp), if_neg (by simp), if_neg (by simp)]
  rfl
theorem one_esc {n : Nat} (h : n ≤ 1114111) (t : List Int) : one (esc n ++ t) = ((n : Int), ((esc n).length : Int), 0) := by
  unfold one
  rw [if_pos (by unfold esc; simp)]
  exact num_esc h t
/-- A range written. -/
def wr (p : Int × Int) : List Int := esc p.1.toNat ++ 45 :: esc p.2.toNat
theorem wr_len (p : Int × Int) : (wr p).length = (esc p.1.toNat).length + 1 + (esc p.2.toNat).length := by unfold wr; simp; omega
theorem drop_len {α : Type} (x y : List α) {l : List α} {at_ : Nat} (h : l.drop at_ = x ++ y) : l.drop (at_ + x.length) = y := by
  rw [← List.drop_drop, h]; simp
theorem item_wr {s : ByteArray} {at_ : Nat} {p : Int × Int} {t : List Int} (h0 : 0 ≤ p.1) (h1 : p.1 ≤ p.2) (h2 : p.2 ≤ 1114111) (h : (Utf.nums s).drop at_ = wr p ++ t) : item s at_ = .ok (.rng p.1 p.2) (at_ + (wr p).length) := by
  obtain ⟨lo, hi⟩ := p
  dsimp only at h0 h1 h2
  obtain ⟨a, rfl⟩ : ∃ a : Nat, lo = a := ⟨lo.toNat, by omega⟩
  obtain ⟨b, rfl⟩ : ∃ b : Nat, hi = b := ⟨hi.toNat, by omega⟩
  have hw : wr ((a : Int), (b : Int)) = esc a ++ 45 :: esc b := rfl
  have e : (Utf.nums s).drop at_ = esc a ++ 45 :: (esc b ++ t) := by rw [h, hw]; simp
  have e2 : (Utf.nums s).drop (at_ + (esc a).length) = 45 :: (esc b ++ t) := drop_len _ _ e
  have e3 : (Utf.nums s).drop (at_ + (esc a).length + 1) = esc b ++ t := by rw [← List.drop_drop, e2]; rfl
  have s1 : set (s.extract at_ s.size) = (none, 0, 5) := set_esc (t := 123 :: (hexL a ++ [125]) ++ 45 :: (esc b ++ t)) (by rw [nums_tail, e]; unfold esc; simp)
  have s2 : set (s.extract (at_ + (esc a).length + 1) s.size) = (none, 0, 5) := set_esc (t := 123 :: (hexL b ++ [125]) ++ t) (by rw [nums_tail, e3]; unfold esc; simp)
  have o1 := one_esc (n := a) (by omega) (45 :: (esc b ++ t))
  have o2 := one_esc (n := b) (by omega) t
  unfold item
  dsimp only
  rw [e, if_neg (by unfold esc; simp), s1, if_neg (by decide), if_neg (by decide)]
  unfold span
  dsimp only
  rw [e, o1, if_neg (by simp)]
  dsimp only
  rw [Int.toNat_natCast, e2, if_neg (by unfold goesOn esc; simp), s2, if_neg (by decide), e3, o2, if_neg (by simp), if_neg (by dsimp only; omega)]
  rw [wr_len]
  dsimp only
  simp only [Int.toNat_natCast, Nat.add_assoc]
theorem items_wr (s : ByteArray) (fs : Nat) (t : List Int) : ∀ (L : List (Int × Int)) (at_ : Nat) (Xs : List It), (∀ p ∈ L, 0 ≤ p.1 ∧ p.1 ≤ p.2 ∧ p.2 ≤ 1114111) → (L ≠ [] ∨ fs < at_) → fs ≤ at_ → (Utf.nums s).drop at_ = L.flatMap wr ++ 93 :: t → rest s fs at_ Xs = .ok (Xs ++ L.map fun p => .rng p.1 p.2) (at_ + (L.flatMap wr).length)
  | [], at_, Xs, hL, hf, hfs, h => by
    have hl : at_ < s.size := by
      have := congrArg List.length h
      rw [List.length_drop, nums_len] at this
      simp at this; omega
    have h93 : (Utf.nums s)[at_]?.getD 0 = 93 := by
      have : ((Utf.nums s).drop at_)[0]? = some 93 := by rw [h]; rfl
      rw [List.getElem?_drop, Nat.add_zero] at this
      rw [this]; rfl
    rw [rest_close hl h93 (by rcases hf with hf | hf; exact absurd rfl hf; exact hf)]
    simp
  | p :: L, at_, Xs, hL, hf, hfs, h => by
    have e : (Utf.nums s).drop at_ = wr p ++ (L.flatMap wr ++ 93 :: t) := by rw [h]; simp
    have hl : at_ < s.size := by
      have := congrArg List.length h
      rw [List.length_drop, nums_len] at this
      simp at this; omega
    have h92 : (Utf.nums s)[at_]?.getD 0 = 92 := by
      have : ((Utf.nums s).drop at_)[0]? = some 92 := by rw [e]; rfl
      rw [List.getElem?_drop, Nat.add_zero] at this
      rw [this]; rfl
    obtain ⟨h0, h1, h2⟩ := hL p (by simp)
    have hp : 0 < (wr p).length := by rw [wr_len]; omega
    rw [rest_step hl (by omega) (item_wr h0 h1 h2 e), items_wr s fs t L _ _ (fun q hq => hL q (by simp [hq])) (.inr (by omega)) (by omega) (drop_len _ _ e)]
    simp [Nat.add_assoc]
theorem itsIs_rng : ∀ (L : List (Int × Int)) (Xs : List It) (M : List R), ItsIs Xs M → ItsIs (Xs ++ L.map fun p => .rng p.1 p.2) (M ++ L)
  | [], Xs, M, h => by simpa using h
  | p :: L, Xs, M, h => by
    have := itsIs_rng L (Xs ++ [.rng p.1 p.2]) (M ++ [p]) (.snoc h (show ItIs (.rng p.1 p.2) [p] from rfl))
    simpa using this
theorem brack_wrn {s : ByteArray} {L : List (Int × Int)} {t : List Int} (hn : L ≠ []) (hL : ∀ p ∈ L, 0 ≤ p.1 ∧ p.1 ≤ p.2 ∧ p.2 ≤ 1114111) (h : Utf.nums s = 91 :: 94 :: (L.flatMap wr ++ 93 :: t)) : brack s = .ok (L.map fun p => .rng p.1 p.2) (2 + (L.flatMap wr).length) ∧ first (Utf.nums s) = 2 := by
  have hf : first (Utf.nums s) = 2 := by unfold first; rw [h]; rfl
  refine ⟨?_, hf⟩
  rw [brack_yes (by rw [h]; rfl), hf, items_wr s 2 t L 2 [] hL (.inl hn) (Nat.le_refl _) (by rw [h]; rfl)]
  simp
end Go.Proofs.YtanffablfgnioaaGreatDoor.Br
