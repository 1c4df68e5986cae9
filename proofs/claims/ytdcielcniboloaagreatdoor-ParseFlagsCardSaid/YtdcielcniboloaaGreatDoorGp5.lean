/- Mathematics of bracket: what is read does not hang on what stands behind. · Small laws of append, on lists of ranges. · Lists of integers in memory, owned or read, and small laws on worlds. · Lists of sequences of ranges in memory; burinbook.SameSeqs. · Arguments that are lists of ranges, or lists of such lists, opened: over any program that has the types. · Trees of patterns in memory (api.Node): how one reads; an argument that is one, opened: over any program that has the types. -/
import Derived.Test.YtdcielcniboloaaGreatDoorGp2
import Derived.Test.YtdcielcniboloaaGreatDoorGp3
import Derived.Laws.MakeOwn
import Derived.Laws.OwnMore
import Derived.Deep.SlicePairs
import Derived.ProofKit
import Derived.SizedLaws
import Derived.Lib.RowBridge
import Derived.Lib.LaidTab
namespace Go.Proofs.YtdcielcniboloaaGreatDoor.Br
open Go.Proofs.YtdcielcniboloaaGreatDoor.Rg
set_option linter.unusedVariables false
theorem nums_inj' {s t : ByteArray} (h : Utf.nums s = Utf.nums t) : s = t := by
  apply ByteArray.ext
  apply Array.toList_inj.1
  unfold Utf.nums at h
  exact List.map_inj_right (fun a b e => UInt8.toNat_inj.1 (by exact_mod_cast e)) |>.1 h
theorem nums_append' (s t : ByteArray) : Utf.nums (s ++ t) = Utf.nums s ++ Utf.nums t := by
  unfold Utf.nums; rw [ByteArray.data_append, Array.toList_append, List.map_append]
/-- Alike ahead of n. -/
def Ag (n : Nat) (l m : List Int) : Prop := n ≤ l.length ∧ n ≤ m.length ∧ ∀ k, k < n → m[k]? = l[k]?
theorem Ag.mono {n k : Nat} {l m : List Int} (h : Ag n l m) (hk : k ≤ n) : Ag k l m := ⟨by have := h.1; omega, by have := h.2.1; omega, fun j hj => h.2.2 j (by omega)⟩
theorem Ag.drop {n : Nat} {l m : List Int} (h : Ag n l m) (d : Nat) : Ag (n - d) (l.drop d) (m.drop d) :=
  ⟨by have := h.1; simp; omega, by have := h.2.1; simp; omega, fun k hk => by rw [List.getElem?_drop, List.getElem?_drop]; exact h.2.2 _ (by omega)⟩
theorem Ag.take {n : Nat} {l m : List Int} (h : Ag n l m) : m.take n = l.take n := by
  apply List.ext_getElem?
  intro k
  rw [List.getElem?_take, List.getElem?_take]
  split
  · exact h.2.2 k (by assumption)
  · rfl
theorem Ag.getD {n : Nat} {l m : List Int} (h : Ag n l m) {k : Nat} (hk : k < n) : m[k]?.getD 0 = l[k]?.getD 0 := by rw [h.2.2 k hk]
theorem Ag.value {n : Nat} {l m : List Int} (h : Ag n l m) : val m n = val l n := by unfold Br.val; rw [h.take]
/-- A count that ends ahead of the place is the same. -/
theorem Ag.count {n : Nat} {l m : List Int} (h : Ag n l m) (k : Nat) (hk : cnt l k < n ∨ (cnt l k = k ∧ k ≤ n)) : cnt m k = cnt l k := by
  have h1 := cnt_le l k
  refine cnt_ends m k _ h1.1 (by have := h.2.1; omega) (fun j hj => ?_) ?_
  · rw [h.getD (by omega)]; exact cnt_yes l k j hj
  · by_cases e : cnt l k = k
    · exact .inl e
    · refine .inr (.inr ?_)
      rw [h.getD (by omega)]
      exact cnt_no l k (by omega) (by have := h.1; omega)
theorem num_local {n : Nat} {l m : List Int} (h : Ag n l m) (h0 : (num l).2.2 = 0) (hn : (num l).2.1 ≤ n) : num m = num l := by
  have hc := num_cases l
  have h2 : 2 ≤ n := by omega
  unfold num at h0 hn ⊢
  rw [h.getD (k := 0) (by omega), h.getD (k := 1) (by omega)]
  by_cases c0 : l[0]?.getD 0 ≠ 92
  · rw [if_pos c0] at h0; cases h0
  rw [if_neg c0] at h0 hn
  rw [if_neg c0, if_neg c0]
  have a1 := h.1
  have a2 := h.2.1
  rw [if_neg (show ¬ l.length = 1 by omega)] at h0 hn
  rw [if_neg (show ¬ l.length = 1 by omega), if_neg (show ¬ m.length = 1 by omega)]
  by_cases c2 : l[1]?.getD 0 ≠ 120
  · rw [if_pos c2, if_pos c2]
  rw [if_neg c2] at h0 hn
  rw [if_neg c2, if_neg c2]
  by_cases c3 : l[2]?.getD 0 = 123
  · rw [if_pos c3] at h0 hn
    rw [if_pos (show l[2]?.getD 0 = 123 from c3)]
    unfold braced at h0 hn ⊢
    dsimp only at h0 hn ⊢
    by_cases c4 : 3 + cnt (l.drop 3) 6 = l.length
    · rw [if_pos c4] at h0; cases h0
    rw [if_neg c4] at h0 hn
    by_cases c5 : l[3 + cnt (l.drop 3) 6]?.getD 0 ≠ 125 ∨ cnt (l.drop 3) 6 = 0 ∨ 1114111 < val (l.drop 3) (cnt (l.drop 3) 6)
    · rw [if_pos c5] at h0; cases h0
    rw [if_neg c5] at hn
    have hn' : cnt (l.drop 3) 6 + 4 ≤ n := by have : ((cnt (l.drop 3) 6 : Nat) : Int) + 4 ≤ n := hn; omega
    have e := (h.drop 3).count 6 (.inl (by omega))
    have ev := ((h.drop 3).mono (k := cnt (l.drop 3) 6) (by omega)).value
    rw [h.getD (k := 2) (by omega), if_pos c3, e, ev, h.getD (k := 3 + cnt (l.drop 3) 6) (by omega), if_neg (by omega), if_neg c4]
  · rw [if_neg c3] at h0 hn
    rw [if_neg (show ¬ l[2]?.getD 0 = 123 from c3)]
    unfold two at h0 hn ⊢
    dsimp only at h0 hn ⊢
    by_cases c4 : cnt (l.drop 2) 2 = 2
    · rw [if_pos c4] at hn
      have hn' : 4 ≤ n := by have : (4 : Int) ≤ n := hn; omega
      have e := (h.drop 2).count 2 (.inr ⟨c4, by omega⟩)
      have ev := ((h.drop 2).mono (k := 2) (by omega)).value
      rw [h.getD (k := 2) (by omega), if_neg c3, e, ev]
      rw [if_pos c4, if_pos c4]
    rw [if_neg c4] at h0
    split at h0 <;> cases h0
theorem dec_local {n : Nat} {l m : List Int} (hb : Utf.Bytes l) (h : Ag n l m) (h0 : 0 ≤ (Utf.dec l).1) (hn : (Utf.dec l).2 ≤ n) : Utf.dec m = Utf.dec l := by
  rcases Utf.dec_some l hb with ⟨_, e⟩ | ⟨_, e⟩ | ⟨hw, hl, t, ht⟩
  · rw [e] at h0; exact absurd h0 (by decide)
  · rw [e] at h0; exact absurd h0 (by decide)
  · have hlen := Utf.encN_length (Utf.dec l).1
    have hk : (Utf.encN (Utf.dec l).1).length ≤ n := by omega
    have e1 := (h.mono hk).take
    have e2 : l.take (Utf.encN (Utf.dec l).1).length = Utf.encN (Utf.dec l).1 := by
      have key : ∀ (E t : List Int), l = E ++ t → l.take E.length = E := fun E t h => by rw [h]; simp
      exact key _ t ht
    have e3 : m = Utf.encN (Utf.dec l).1 ++ m.drop (Utf.encN (Utf.dec l).1).length := by
      conv => lhs; rw [← List.take_append_drop (Utf.encN (Utf.dec l).1).length m, e1, e2]
    rw [e3, Utf.dec_enc _ hw, ← hl]
theorem one_local {n : Nat} {l m : List Int} (hb : Utf.Bytes l) (h : Ag n l m) (h0 : (one l).2.2 = 0) (hn : (one l).2.1 ≤ n) : one m = one l := by
  have hc := one_cases l hb
  have h1 : 1 ≤ n := by omega
  unfold one at h0 hn ⊢
  rw [h.getD (k := 0) (by omega)]
  split
  · rename_i c
    rw [if_pos c] at h0 hn
    exact num_local h h0 hn
  · rename_i c
    rw [if_neg c] at h0 hn
    split at h0
    · cases h0
    · rename_i c2
      rw [if_neg c2] at hn
      rw [dec_local hb h (by omega) hn]
theorem extract_eq {n a b : Nat} {s u : ByteArray} (h : Ag n (Utf.nums s) (Utf.nums u)) (hb : b ≤ n) : u.extract a b = s.extract a b := by
  apply nums_inj'
  rw [Utf.nums_extract, Utf.nums_extract]
  by_cases hab : a ≤ b
  · exact (((h.mono hb).drop a).take)
  · rw [show b - a = 0 by omega]; simp
theorem nameX_local {n : Nat} {s u : ByteArray} (h : Ag n (Utf.nums s) (Utf.nums u)) (h0 : (nameX s).2.2 = 0) (hn : (nameX s).2.1 ≤ n) (h2 : 2 ≤ s.size) : nameX u = nameX s := by
  have hc := nameX_cases s h2
  have h3 : 3 ≤ n := by omega
  have a1 := h.1
  have a2 := h.2.1
  unfold nameX at h0 hn ⊢
  dsimp only at h0 hn ⊢
  rw [h.getD (k := 2) (by omega)]
  rw [if_neg (by omega)] at h0 hn
  rw [if_neg (by omega)]
  rw [if_neg (show ¬ (Utf.nums s).length = 2 by omega)]
  by_cases c1 : letB ((Utf.nums s)[2]?.getD 0) = true
  · rw [if_pos c1, if_pos c1, extract_eq h (by omega)]
  rw [if_neg c1] at h0 hn
  rw [if_neg c1, if_neg c1]
  by_cases c2 : (Utf.nums s)[2]?.getD 0 ≠ 123
  · rw [if_pos c2] at h0; cases h0
  rw [if_neg c2] at h0 hn
  rw [if_neg c2, if_neg c2]
  by_cases c3 : upTo 125 ((Utf.nums s).drop 3) = ((Utf.nums s).drop 3).length
  · rw [if_pos c3] at h0; cases h0
  rw [if_neg c3] at hn
  have hk : upTo 125 ((Utf.nums s).drop 3) + 4 ≤ n := by have : ((upTo 125 ((Utf.nums s).drop 3) : Nat) : Int) + 4 ≤ n := hn; omega
  have h4 := upTo_le 125 ((Utf.nums s).drop 3)
  have h5 := upTo_at 125 ((Utf.nums s).drop 3) (by omega)
  have hd := h.drop 3
  have e : upTo 125 ((Utf.nums u).drop 3) = upTo 125 ((Utf.nums s).drop 3) :=
    upTo_is 125 _ _ ((hd.2.2 _ (by omega)).trans h5) (fun j hj => by rw [hd.2.2 _ (by omega)]; exact upTo_no 125 _ j hj)
  have hl := hd.2.1
  rw [e, if_neg c3, if_neg (by omega), extract_eq h (by omega)]
theorem propX_local {n : Nat} {s u : ByteArray} (neg : Bool) (h : Ag n (Utf.nums s) (Utf.nums u)) (h0 : (propX s neg).2.2 = 0) (hn : (propX s neg).2.1 ≤ n) (h2 : 2 ≤ s.size) : propX u neg = propX s neg := by
  have key : (nameX s).2.2 = 0 ∧ (nameX s).2.1 ≤ n := by
    unfold propX at h0 hn
    split at h0
    · rename_i c
      exact absurd h0 c
    · rename_i c
      rw [if_neg c] at hn
      cases hl : Cl.lookC Cl.propT (nameX s).1.data.toList with
      | none => rw [hl] at h0; cases h0
      | some p => rw [hl] at hn; exact ⟨by omega, hn⟩
  unfold propX
  rw [nameX_local h key.1 key.2 h2]
theorem set_local {n : Nat} {s u : ByteArray} (h : Ag n (Utf.nums s) (Utf.nums u)) (h0 : (set s).2.2 = 0) (hn : (set s).2.1 ≤ n) : set u = set s := by
  have hc := set_cases s
  have h2 : 2 ≤ n := by rcases hc with hc | ⟨x, _, _, hc, _⟩ <;> omega
  have a1 := h.1
  have a2 := h.2.1
  have hs : 2 ≤ s.size := by rw [nums_len] at a1; omega
  unfold set at h0 hn ⊢
  dsimp only at h0 hn ⊢
  rw [h.getD (k := 0) (by omega), h.getD (k := 1) (by omega)]
  by_cases c0 : (Utf.nums s)[0]?.getD 0 ≠ 92
  · rw [if_pos c0] at h0; cases h0
  rw [if_neg c0] at h0 hn
  rw [if_neg c0, if_neg c0]
  rw [if_neg (show ¬ (Utf.nums s).length = 1 by omega)] at h0 hn
  rw [if_neg (show ¬ (Utf.nums s).length = 1 by omega), if_neg (show ¬ (Utf.nums u).length = 1 by omega)]
  by_cases c1 : (Utf.nums s)[1]?.getD 0 = 80
  · rw [if_pos c1] at h0 hn; rw [if_pos c1, if_pos c1]; exact propX_local true h h0 hn hs
  rw [if_neg c1] at h0 hn
  rw [if_neg c1, if_neg c1]
  by_cases c2 : (Utf.nums s)[1]?.getD 0 = 112
  · rw [if_pos c2] at h0 hn; rw [if_pos c2, if_pos c2]; exact propX_local false h h0 hn hs
  rw [if_neg c2, if_neg c2]
/-- Where a character is read, and no set's escape stands there, none stands there with another text behind. -/
theorem set_none {n : Nat} {s u : ByteArray} (h : Ag n (Utf.nums s) (Utf.nums u)) (h1 : 1 ≤ n) (hs : (set s).2.2 = 3 ∨ (set s).2.2 = 5) (h0 : (one (Utf.nums s)).2.2 = 0) (hn : (one (Utf.nums s)).2.1 ≤ n) : (set u).2.2 = 3 ∨ (set u).2.2 = 5 := by
  have a1 := h.1
  have a2 := h.2.1
  unfold set at hs ⊢
  dsimp only at hs ⊢
  rw [h.getD (k := 0) (by omega)]
  by_cases c0 : (Utf.nums s)[0]?.getD 0 ≠ 92
  · rw [if_pos c0]; exact .inl rfl
  rw [if_neg c0] at hs
  rw [if_neg c0]
  have h2 : 2 ≤ n := by
    unfold one at h0 hn
    rw [if_pos (by omega)] at h0 hn
    have := num_cases (Utf.nums s)
    omega
  rw [if_neg (show ¬ (Utf.nums s).length = 1 by omega)] at hs
  rw [if_neg (show ¬ (Utf.nums u).length = 1 by omega), h.getD (k := 1) (by omega)]
  rw [nums_len] at a1
  by_cases c1 : (Utf.nums s)[1]?.getD 0 = 80
  · rw [if_pos c1] at hs; rcases propX_cases s true (by omega) with h | ⟨x, _, h, _⟩ <;> omega
  rw [if_neg c1] at hs
  rw [if_neg c1]
  by_cases c2 : (Utf.nums s)[1]?.getD 0 = 112
  · rw [if_pos c2] at hs; rcases propX_cases s false (by omega) with h | ⟨x, _, h, _⟩ <;> omega
  rw [if_neg c2] at hs
  rw [if_neg c2]
  cases hl : Cl.letterX ((Utf.nums s)[1]?.getD 0) with
  | none => exact .inr rfl
  | some x => rw [hl] at hs; rcases hs with hs | hs <;> cases hs
theorem nums_tail (s : ByteArray) (a : Nat) : Utf.nums (s.extract a s.size) = (Utf.nums s).drop a := by
  rw [Utf.nums_extract, List.take_of_length_le]
  rw [List.length_drop, nums_len]; omega
theorem item_local {n : Nat} {s u : ByteArray} (h : Ag n (Utf.nums s) (Utf.nums u)) (hz : (Utf.nums s)[n - 1]?.getD 0 = 93) {at_ next : Nat} {x : It} (hx : item s at_ = .ok x next) (hn : next < n) : item u at_ = .ok x next := by
  have hbd := item_bd s at_ x next hx
  have hA : Ag (n - at_) ((Utf.nums s).drop at_) ((Utf.nums u).drop at_) := h.drop at_
  have hT : Ag (n - at_) (Utf.nums (s.extract at_ s.size)) (Utf.nums (u.extract at_ u.size)) := by rw [nums_tail, nums_tail]; exact hA
  unfold item at hx ⊢
  dsimp only at hx ⊢
  rw [hA.2.2 0 (by omega), hA.2.2 1 (by omega)]
  by_cases c0 : ((Utf.nums s).drop at_)[0]? = some 91 ∧ ((Utf.nums s).drop at_)[1]? = some 58
  · rw [if_pos c0] at hx ⊢
    unfold colonX at hx ⊢
    dsimp only at hx ⊢
    by_cases c1 : upTo2 58 93 ((Utf.nums s).drop (at_ + 2)) = ((Utf.nums s).drop (at_ + 2)).length
    · rw [if_pos c1] at hx; cases hx
    rw [if_neg c1] at hx
    have h4 := upTo2_le 58 93 ((Utf.nums s).drop (at_ + 2))
    have h5 := upTo2_at 58 93 ((Utf.nums s).drop (at_ + 2)) (by omega)
    cases hl : Cl.lookC Cl.colonT (s.extract (at_ + 2) (at_ + 2 + upTo2 58 93 ((Utf.nums s).drop (at_ + 2)))).data.toList with
    | none => rw [hl] at hx; cases hx
    | some y =>
      rw [hl] at hx
      have hnx : at_ + 4 + upTo2 58 93 ((Utf.nums s).drop (at_ + 2)) = next := by cases hx; rfl
      have hd := h.drop (at_ + 2)
      have e : upTo2 58 93 ((Utf.nums u).drop (at_ + 2)) = upTo2 58 93 ((Utf.nums s).drop (at_ + 2)) :=
        upTo2_is 58 93 _ _ ((hd.2.2 _ (by omega)).trans h5.1) ((hd.2.2 _ (by omega)).trans h5.2) (fun j hj => by rw [hd.2.2 _ (by omega), hd.2.2 _ (by omega)]; exact upTo2_no 58 93 _ j hj)
      have hl2 := hd.2.1
      rw [e, if_neg (by omega), extract_eq h (by omega), hl]
      exact hx
  rw [if_neg c0] at hx ⊢
  by_cases c1 : (set (s.extract at_ s.size)).2.2 = 0
  · rw [if_pos c1] at hx
    rcases set_cases (s.extract at_ s.size) with ⟨e1, e2, e3⟩ | ⟨y, e1, e2, e3, e4⟩
    · omega
    · rw [e1] at hx
      dsimp only at hx
      have hnx : at_ + (set (s.extract at_ s.size)).2.1.toNat = next := by cases hx; rfl
      have e := set_local hT c1 (by omega)
      rw [e, if_pos c1, e1]
      exact hx
  rw [if_neg c1] at hx
  by_cases c2 : (set (s.extract at_ s.size)).2.2 ≠ 3 ∧ (set (s.extract at_ s.size)).2.2 ≠ 5
  · rw [if_pos c2] at hx; cases hx
  rw [if_neg c2] at hx
  have hbn := Utf.bytes_drop (Utf.nums_bytes s)
  have hsp : span u at_ = .ok x next ∧ (one ((Utf.nums s).drop at_)).2.2 = 0 ∧ (one ((Utf.nums s).drop at_)).2.1 ≤ (n - at_ : Nat) := by
    unfold span at hx ⊢
    dsimp only at hx ⊢
    by_cases c3 : (one ((Utf.nums s).drop at_)).2.2 ≠ 0
    · rw [if_pos c3] at hx; cases hx
    rw [if_neg c3] at hx
    have o1 := one_cases ((Utf.nums s).drop at_) (hbn _)
    obtain ⟨e, he⟩ : ∃ e, at_ + (one ((Utf.nums s).drop at_)).2.1.toNat = e := ⟨_, rfl⟩
    rw [he] at hx
    have hE : Ag (n - e) ((Utf.nums s).drop e) ((Utf.nums u).drop e) := h.drop e
    have hen : e ≤ next := by
      split at hx
      · cases hx; omega
      split at hx
      · cases hx
      split at hx
      · cases hx
      split at hx
      · cases hx
      · cases hx; omega
    have eo := one_local (hbn at_) hA (by omega) (by omega)
    refine ⟨?_, by omega, by omega⟩
    rw [eo, if_neg c3, he]
    have hgo : goesOn ((Utf.nums u).drop e) = goesOn ((Utf.nums s).drop e) := by
      by_cases en : e + 1 < n
      · unfold goesOn
        rw [hE.2.2 0 (by omega), hE.2.2 1 (by omega)]
        have := hE.1
        have := hE.2.1
        rw [decide_eq_true (show 2 ≤ ((Utf.nums s).drop e).length by omega), decide_eq_true (show 2 ≤ ((Utf.nums u).drop e).length by omega)]
      · obtain rfl : e = n - 1 := by omega
        have hsz := h.1
        have h93 : ((Utf.nums s).drop (n - 1))[0]? = some 93 := by
          rw [List.getElem?_drop, Nat.add_zero]
          rw [List.getElem?_eq_getElem (by omega)] at hz ⊢
          exact congrArg some hz
        unfold goesOn
        rw [hE.2.2 0 (by omega), h93]
        simp
    by_cases c4 : goesOn ((Utf.nums s).drop e) = false
    · rw [if_pos c4] at hx; rw [hgo, if_pos c4]; exact hx
    rw [if_neg c4] at hx
    rw [hgo, if_neg c4]
    by_cases c5 : (set (s.extract (e + 1) s.size)).2.2 ≠ 3 ∧ (set (s.extract (e + 1) s.size)).2.2 ≠ 5
    · rw [if_pos c5] at hx; cases hx
    rw [if_neg c5] at hx
    by_cases c6 : (one ((Utf.nums s).drop (e + 1))).2.2 ≠ 0
    · rw [if_pos c6] at hx; cases hx
    rw [if_neg c6] at hx
    have o2 := one_cases ((Utf.nums s).drop (e + 1)) (hbn _)
    by_cases c7 : (one ((Utf.nums s).drop (e + 1))).1 < (one ((Utf.nums s).drop at_)).1
    · rw [if_pos c7] at hx; cases hx
    rw [if_neg c7] at hx
    have hnx : e + 1 + (one ((Utf.nums s).drop (e + 1))).2.1.toNat = next := by cases hx; rfl
    have hE1 : Ag (n - (e + 1)) ((Utf.nums s).drop (e + 1)) ((Utf.nums u).drop (e + 1)) := h.drop _
    have hT1 : Ag (n - (e + 1)) (Utf.nums (s.extract (e + 1) s.size)) (Utf.nums (u.extract (e + 1) u.size)) := by rw [nums_tail, nums_tail]; exact hE1
    have hs1 := set_none hT1 (by omega) (by omega) (by rw [nums_tail]; omega) (by rw [nums_tail]; omega)
    rw [if_neg (by omega), one_local (hbn _) hE1 (by omega) (by omega), if_neg c6, if_neg c7]
    exact hx
  have hs0 := set_none hT (by omega) (by omega) (by rw [nums_tail]; exact hsp.2.1) (by rw [nums_tail]; exact hsp.2.2)
  rw [if_neg (by omega), if_neg (by omega)]
  exact hsp.1
theorem items_close (s : ByteArray) (fs : Nat) : ∀ (f at_ : Nat) (Xs Ys : List It) (e : Nat), items s fs f at_ Xs = .ok Ys e → at_ ≤ e ∧ e < s.size ∧ (Utf.nums s)[e]?.getD 0 = 93 ∧ fs < e
  | 0, at_, Xs, Ys, e, h => by cases h
  | f + 1, at_, Xs, Ys, e, h => by
    unfold items at h
    split at h
    · cases h
    rename_i h1
    split at h
    · rename_i h2; cases h; exact ⟨Nat.le_refl _, by omega, h2.1, h2.2⟩
    cases hx : item s at_ with
    | bad o c => rw [hx] at h; cases h
    | ok x next =>
      rw [hx] at h
      have := items_close s fs f next _ Ys e h
      have := item_bd s at_ x next hx
      exact ⟨by omega, by omega, by omega, by omega⟩
theorem items_local {s u : ByteArray} {fs e : Nat} {Ys : List It} (h : Ag (e + 1) (Utf.nums s) (Utf.nums u)) : ∀ (f at_ : Nat) (Xs : List It), items s fs f at_ Xs = .ok Ys e → items u fs f at_ Xs = .ok Ys e
  | 0, at_, Xs, hi => by cases hi
  | f + 1, at_, Xs, hi => by
    have hc := items_close s fs (f + 1) at_ Xs Ys e hi
    have hu := h.2.1
    rw [nums_len] at hu
    unfold items at hi ⊢
    rw [if_neg (by omega)] at hi ⊢
    rw [h.getD (k := at_) (by omega)]
    by_cases h2 : (Utf.nums s)[at_]?.getD 0 = 93 ∧ fs < at_
    · rw [if_pos h2] at hi ⊢; exact hi
    rw [if_neg h2] at hi ⊢
    cases hx : item s at_ with
    | bad o c => rw [hx] at hi; cases hi
    | ok x next =>
      rw [hx] at hi
      have hcn := items_close s fs f next _ Ys e hi
      rw [item_local h (by simpa using hc.2.2.1) hx (by omega)]
      exact items_local h f next _ hi
/-- What is read between brackets is read so whatever stands behind them. -/
theorem brack_local {s u : ByteArray} {Ys : List It} {e : Nat} (hs : brack s = .ok Ys e) (h : Ag (e + 1) (Utf.nums s) (Utf.nums u)) : brack u = .ok Ys e := by
  by_cases h0 : (Utf.nums s)[0]?.getD 0 = 91
  · have hu0 : (Utf.nums u)[0]?.getD 0 = 91 := by rw [h.getD (by omega)]; exact h0
    rw [brack_yes h0] at hs
    have hc := items_close s _ _ _ _ Ys e hs
    have hf : first (Utf.nums u) = first (Utf.nums s) := by unfold first; rw [h.getD (k := 1) (by unfold first at hc; split at hc <;> omega)]
    rw [brack_yes hu0, hf]
    have hu := h.2.1
    rw [nums_len] at hu
    unfold rest at hs ⊢
    refine Eq.trans (items_fuel u _ _ (max (s.size + 1 - first (Utf.nums s)) (u.size + 1 - first (Utf.nums s))) _ _ (Nat.le_refl _) (by omega)) ?_
    refine items_local h _ _ _ ?_
    rw [← hs]
    exact items_fuel s _ _ _ _ _ (by omega) (Nat.le_refl _)
  · rw [brack_no h0] at hs; cases hs
theorem brack_close {s : ByteArray} {Ys : List It} {e : Nat} (hs : brack s = .ok Ys e) : 2 ≤ e ∧ e < s.size ∧ (Utf.nums s)[e]?.getD 0 = 93 ∧ (Utf.nums s)[0]?.getD 0 = 91 := by
  by_cases h0 : (Utf.nums s)[0]?.getD 0 = 91
  · rw [brack_yes h0] at hs
    have hc := items_close s _ _ _ _ Ys e hs
    have : 1 ≤ first (Utf.nums s) := by unfold first; split <;> omega
    exact ⟨by omega, hc.2.1, hc.2.2.1, h0⟩
  · rw [brack_no h0] at hs; cases hs
end Go.Proofs.YtdcielcniboloaaGreatDoor.Br
namespace Go.Proofs.YtdcielcniboloaaGreatDoor
open Go.RowKit
set_option linter.unusedVariables false
/-- An append whose run is known. -/
theorem wpList_append_run {P : Program} {ops : Array Oper} {rest : List Oper} {o : Oper} {a : Act} {w : World} {Q : Exit → Act → World → Prop} (hgd : o.guard = none) (s x : Operand) (t : TypeId)
    (ho : o.op = .call { callee := .builtin .append, args := #[s, x], argTypes := #[t, t] }) (vs vx v' : Value) (w' : World) (hs : a.eval s = vs) (hx : a.eval x = vx)
    (hr : (Builtin.append_ #[t, t] o.type #[vs, vx]).run P w = .ok v' w') (h : wpList P ops Q rest (a.put o.dst v') w') : wpList P ops Q (o :: rest) a w :=
  wpList_plain hgd fun _ hK => by
    unfold Oper.wp execOp
    simp only [ho, resolve, invoke, builtin, Sem.run_bind, Sem.run_pure, Result.andThen_ok, List.map_toArray, List.map_cons, List.map_nil, hs, hx, hr]
    exact hK _ _ h
theorem rg_news {W : World} {b off : Nat} {a : List (Int × Int)}
    (hc : ∀ j, j < a.length → W.cell? ⟨b, off + j * 2, none⟩ = some (.int .i64 (a[j]?.getD (0, 0)).1) ∧ W.cell? ⟨b, off + j * 2 + 1, none⟩ = some (.int .i64 (a[j]?.getD (0, 0)).2)) :
    ∀ j u, (flat2 a)[j]? = some u → W.cell? ((⟨b, off, none⟩ : Addr).add j) = some u := by
  intro j u hj
  have hlt : j < (flat2 a).length := by
    rcases Nat.lt_or_ge j (flat2 a).length with h | h
    · exact h
    · rw [List.getElem?_eq_none h] at hj; cases hj
  rw [flat2_len] at hlt
  have hadd : (⟨b, off, none⟩ : Addr).add j = ⟨b, off + j, none⟩ := by unfold Addr.add; split <;> simp_all
  rw [hadd]
  have hi := flat2_get a (j / 2) (by omega)
  have hh := hc (j / 2) (by omega)
  rcases Nat.mod_two_eq_zero_or_one j with h0 | h1
  · have e : j = j / 2 * 2 := by omega
    rw [e, hi.1] at hj
    rw [e, hh.1]; exact hj
  · have e : j = j / 2 * 2 + 1 := by omega
    rw [e, hi.2] at hj
    rw [e, ← Nat.add_assoc, hh.2]; exact hj
theorem flat2_one (a : List (Int × Int)) : ∀ u ∈ flat2 a, u.oneCell' = true := by
  intro u hu
  obtain ⟨p, _, hp⟩ := List.mem_flatMap.1 hu
  simp only [List.mem_cons, List.not_mem_nil, or_false] at hp
  rcases hp with rfl | rfl <;> rfl
/-- Nothing is appended. -/
theorem run_append_nothing {P : Program} {w : World} (base : Nat) (t ty e : TypeId) (i : TypeInfo) (size : Nat) (ht : P.underlying t = some (.slice e)) (hi : P.info? e = some i)
    (v : Value) (n : Nat) (xs : List Value) (hown : w.ownsRow base e size v n xs) (A : Option Addr) (c : Nat) :
    (Builtin.append_ #[t, t] ty #[v, .slice A 0 c]).run P w = .ok v w := by
  rcases hown.2 with ⟨rfl, rfl⟩ | ⟨g, cap, cur, rfl, _, _, hnc, _⟩
  · cases A <;> simp [Builtin.append_, run_underlying ht, sizeOf, typeInfo, hi, Builtin.lenOf, Builtin.firstCells, loadCells, loadCellsFrom]
  · cases A <;> simp [Builtin.append_, run_underlying ht, sizeOf, typeInfo, hi, Builtin.lenOf, Builtin.firstCells, hnc, storeCells, loadCells, loadCellsFrom]
end Go.Proofs.YtdcielcniboloaaGreatDoor
namespace Go.Proofs.YtdcielcniboloaaGreatDoor
open Go.RowKit
set_option linter.unusedVariables false
theorem rg_ret_bool {a b : Bool} (h : a = b) : Ending.returned (.bool a) = .returned (.bool b) := by rw [h]
theorem rg_ret_int {k : IntKind} {a b : Int} (h : a = b) : Ending.returned (.int k a) = .returned (.int k b) := by rw [h]
theorem heap_new2 (w : World) (a b : Obj) : ((w.alloc a).alloc b).heap[w.heap.size + 1]? = some b := by
  have := heap_alloc_new (w.alloc a) b
  rwa [show (w.alloc a).heap.size = w.heap.size + 1 from by simp] at this
theorem RgOwn.alloc {W : World} {base : Nat} {v : Value} {l : List (Int × Int)} (h : RgOwn W base v l) (o : Obj) : RgOwn (W.alloc o) base v l := World.ownsRow.alloc h o
theorem RgOwn.lower {W : World} {base base' : Nat} {v : Value} {l : List (Int × Int)} (h : RgOwn W base v l) (hb : base' ≤ base) : RgOwn W base' v l :=
  ⟨h.1, h.2.imp id (fun ⟨g, cap, cur, h1, h2, h3⟩ => ⟨g, cap, cur, h1, Nat.le_trans hb h2, h3⟩)⟩
theorem below_drewNr {B : Nat} {w w' : World} (h : Below B w w') (d : Nat) : Below B w (w'.drewN d) := ⟨h.os, h.tape, h.output, h.size, h.block⟩
theorem Tryz.infoInt : (Tryz.prog.info? 3).map (fun i => (i.zero, i.size, i.bytes)) = some (some (.int .i64 0), 1, 8) := by kernel_rfl
abbrev flat1 (T : List Int) : List Value := T.map (Value.int .i64)
/-- A list of integers that a call owns. -/
def IOwn (W : World) (base : Nat) (v : Value) (T : List Int) : Prop := W.ownsRow base 3 1 v T.length (flat1 T)
/-- A value that reads as a list of integers. -/
def IRow (W : World) (v : Value) (T : List Int) : Prop :=
  ∃ a cap, v = .slice a T.length cap ∧ T.length ≤ cap ∧ cap ≤ 9223372036854775807 ∧ ∀ j, j < T.length → ∃ b, a = some ⟨b, 0, none⟩ ∧ b < W.heap.size ∧ W.cell? ⟨b, j, none⟩ = some (.int .i64 (T[j]?.getD 0))
theorem IOwn.nil {W : World} {base : Nat} : IOwn W base (.slice none 0 0) [] := World.ownsRow_nil _ _ _ _
theorem IOwn.below {W W' : World} {base : Nat} {v : Value} {T : List Int} (h : IOwn W base v T) (hb : Below W.heap.size W W') : IOwn W' base v T :=
  h.kept ⟨hb.os, hb.tape, hb.output, hb.size, fun k hk _ => hb.block k hk⟩ (row := none) (by cases hv : v.ownBlock <;> simp)
theorem IOwn.alloc {W : World} {base : Nat} {v : Value} {T : List Int} (h : IOwn W base v T) (o : Obj) : IOwn (W.alloc o) base v T := World.ownsRow.alloc h o
theorem IOwn.lower {W : World} {base base' : Nat} {v : Value} {T : List Int} (h : IOwn W base v T) (hb : base' ≤ base) : IOwn W base' v T :=
  ⟨h.1, h.2.imp id (fun ⟨g, cap, cur, h1, h2, h3⟩ => ⟨g, cap, cur, h1, Nat.le_trans hb h2, h3⟩)⟩
theorem IOwn.row {W : World} {base : Nat} {v : Value} {T : List Int} (h : IOwn W base v T) : IRow W v T := by
  rcases h.2 with ⟨hv, h0⟩ | ⟨g, cap, cur, hv, hb, hg, hnc, hcm, hcs, _⟩
  · exact ⟨none, 0, by rw [h0]; exact hv, by omega, by omega, fun j hj => by omega⟩
  · refine ⟨_, cap, hv, hnc, by simpa [maxLen] using hcm, fun j hj => ⟨g, rfl, (Array.getElem?_eq_some_iff.1 hg).1, ?_⟩⟩
    subst hv
    rw [World.ownsRow.cellAt h j (by omega)]
    simp [flat1, List.getElem?_eq_getElem hj]
theorem IRow.below {W W' : World} {v : Value} {T : List Int} (h : IRow W v T) {B : Nat} (hB : W.heap.size ≤ B) (hb : Below B W W') : IRow W' v T := by
  obtain ⟨a, cap, hv, h1, h2, hc⟩ := h
  refine ⟨a, cap, hv, h1, h2, fun j hj => ?_⟩
  obtain ⟨b, ha, hlt, hcell⟩ := hc j hj
  exact ⟨b, ha, Nat.lt_of_lt_of_le hlt hb.size, (hb.cell (p := ⟨b, j, none⟩) (by show b < B; omega)).trans hcell⟩
end Go.Proofs.YtdcielcniboloaaGreatDoor
namespace Go.Proofs.YtdcielcniboloaaGreatDoor
open Go.RowKit
set_option linter.unusedVariables false
/-- A value that reads as a list of lists of ranges. -/
def QRow (W : World) (v : Value) (L : List (List (Int × Int))) : Prop :=
  ∃ a cap, v = .slice a L.length cap ∧ L.length ≤ 8796093022208 ∧ ∀ j, j < L.length → ∃ b off u, a = some ⟨b, off, none⟩ ∧ b < W.heap.size ∧ W.cell? ⟨b, off + j, none⟩ = some u ∧ RRow W u (L[j]?.getD [])
theorem QRow.below {W W' : World} {v : Value} {L : List (List (Int × Int))} (h : QRow W v L) (hb : Below W.heap.size W W') : QRow W' v L := by
  obtain ⟨a, cap, hv, hl, hc⟩ := h
  refine ⟨a, cap, hv, hl, fun j hj => ?_⟩
  obtain ⟨b, off, u, ha, hlt, h1, h2⟩ := hc j hj
  exact ⟨b, off, u, ha, Nat.lt_of_lt_of_le hlt hb.size, (hb.cell (p := ⟨b, off + j, none⟩) hlt).trans h1, h2.below (Nat.le_refl _) hb⟩
theorem calls_quiet_add {P : Program} {f : FuncId} {args : Array Value} {W : World} {d n : Nat} {v : Value} (h : Calls P f args (W.drewN (d + n)) fun e w' => e = .returned v ∧ ∃ m, w' = (W.drewN (d + n)).drewN m) :
    Calls P f args (W.drewN (d + n)) fun e w'' => e = .returned v ∧ ∃ m, w'' = W.drewN (d + m) :=
  h.mono fun _ _ ⟨he, m, hm⟩ => ⟨he, n + m, by rw [hm, World.drewN_drewN, Nat.add_assoc]⟩


































































end Go.Proofs.YtdcielcniboloaaGreatDoor
namespace Go.Proofs.YtdcielcniboloaaGreatDoor
open Go.ChangeShapes Go.WideShapes Go.ChangeAt Go.RowKit
set_option linter.unusedVariables false
/-- What is asked of a program's types: a list of pairs of integers. -/
structure RgTypes (P : Program) (tr ts ti : TypeId) : Prop where
  list : P.underlying tr = some (.slice ts)
  pair : ∃ f0 f1 : Field, P.underlying ts = some (.struct #[f0, f1]) ∧ f0.offset = 0 ∧ f1.offset = 1 ∧ f0.type = ti ∧ f1.type = ti
  int : P.underlying ti = some (.int .i64)
  cells : P.cellsOf ts = 2
  one : P.cellsOf ti = 1
  bytes : P.bytesOf ts = 16
end Go.Proofs.YtdcielcniboloaaGreatDoor
namespace Go.Proofs.YtdcielcniboloaaGreatDoor
open Go.ChangeShapes Go.WideShapes Go.ChangeAt Go.RowKit
set_option linter.unusedVariables false
/-- A tree. -/
inductive Nd where
  | mk (kind : Int) (set : List (Int × Int)) (num : Int) (name : ByteArray) (mn mx : Int) (lazy : Bool) (subs : List Nd) : Nd
def I64 (x : Int) : Prop := -9223372036854775808 ≤ x ∧ x ≤ 9223372036854775807
/-- Eight cells that read as a tree; its parts lie in a row, eight cells each. -/
inductive NdIs (W : World) : Nd → List Value → Prop where
  | mk {k num mn mx : Int} {set : List (Int × Int)} {name : ByteArray} {lz : Bool} {subs : List Nd} {vs : Value} {a : Option Addr} {cap : Nat} (cs : Nat → List Value)
      (hk : I64 k ∧ I64 num ∧ I64 mn ∧ I64 mx) (hset : RRow W vs set) (hname : name.size ≤ 140737488351232) (hlen : subs.length ≤ 8796093022208)
      (hrow : ∀ j, j < subs.length → ∃ b off, a = some ⟨b, off, none⟩ ∧ b < W.heap.size ∧ (cs j).length = 8 ∧ ∀ i, i < 8 → W.cell? ⟨b, off + j * 8 + i, none⟩ = (cs j)[i]?)
      (hsub : ∀ j (h : j < subs.length), NdIs W subs[j] (cs j)) :
      NdIs W (.mk k set num name mn mx lz subs) [.int .i64 k, vs, .int .i64 num, .string name, .int .i64 mn, .int .i64 mx, .bool lz, .slice a subs.length cap]
theorem NdIs.kept {W W' : World} (hb : Below W.heap.size W W') : ∀ {n : Nd} {cs : List Value}, NdIs W n cs → NdIs W' n cs := by
  intro n cs h
  induction h with
  | mk cs hk hset hname hlen hrow hsub ih =>
    refine .mk cs hk (hset.below (Nat.le_refl _) hb) hname hlen (fun j hj => ?_) ih
    obtain ⟨b, off, ha, hlt, hl, hc⟩ := hrow j hj
    exact ⟨b, off, ha, Nat.lt_of_lt_of_le hlt hb.size, hl, fun i hi => (hb.cell (p := ⟨b, off + j * 8 + i, none⟩) hlt).trans (hc i hi)⟩
theorem NdIs.len {W : World} {n : Nd} {cs : List Value} (h : NdIs W n cs) : cs.length = 8 := by cases h; rfl
/-- What is asked of a program's types. -/
structure NdTypes (P : Program) (tn tns tr ts ti tstr tb : TypeId) : Prop where
  rg : RgTypes P tr ts ti
  node : ∃ f0 f1 f2 f3 f4 f5 f6 f7 : Field, P.underlying tn = some (.struct #[f0, f1, f2, f3, f4, f5, f6, f7]) ∧ (f0.offset = 0 ∧ f1.offset = 1 ∧ f2.offset = 2 ∧ f3.offset = 3 ∧ f4.offset = 4 ∧ f5.offset = 5 ∧ f6.offset = 6 ∧ f7.offset = 7) ∧
    (f0.type = ti ∧ f1.type = tr ∧ f2.type = ti ∧ f3.type = tstr ∧ f4.type = ti ∧ f5.type = ti ∧ f6.type = tb ∧ f7.type = tns)
  list : P.underlying tns = some (.slice tn)
  str : P.underlying tstr = some .string
  bool : P.underlying tb = some .bool
  cells : P.cellsOf tn = 8 ∧ P.cellsOf tr = 1 ∧ P.cellsOf ti = 1 ∧ P.cellsOf tstr = 1 ∧ P.cellsOf tb = 1 ∧ P.cellsOf tns = 1
  bytes : P.bytesOf tn = 104
end Go.Proofs.YtdcielcniboloaaGreatDoor
