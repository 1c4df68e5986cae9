/- strings.Cut at a closing brace and at :]; what a call needs of the library's variables. · Strings as numbers, bits, and small laws that every text on utf or its reference uses; the reference's Width. · The landed bracket: digit, isLetter, isSign, plain; strings.HasPrefix at one byte and at two. -/
import Derived.Test.YtecclhmjmceheaaGreatDoorGp3
import Derived.Test.YtecclhmjmceheaaGreatDoorGp13
import Derived.Shelf.Vars
import Derived.Lib.IndexLaws
import Derived.Lib.Index
import Derived.Test.YtecclhmjmceheaaGreatDoorRows
import Derived.Test.YtecclhmjmceheaaGreatDoorGp1
import Derived.WalkKit
import Derived.OwnWalk
import Derived.WalkLawsBesides
import Derived.WalkSpells
import Derived.Lib.Hide
import Derived.Deep.QuietTactic
import Derived.BigQuiet
import Derived.Laws.BitsLemmas
import Derived.Laws.Bits128
import Derived.Laws.Rows
import Derived.Laws.BytesArg
import Derived.Laws.IdiomStrings
namespace Go.Proofs.YtecclhmjmceheaaGreatDoor
open Go.RowKit Go.Shelf
set_option linter.unusedVariables false
/-- The table of spaces, and some number in the library's variable MaxLen. -/
structure Ev (W : World) : Prop where
  spaces : Spaces W
  lt : 0 < W.heap.size
  max : ∃ m, W.cell? ⟨0, 0, none⟩ = some (.int .i64 m)
theorem Ev.below {W W' : World} {B : Nat} (h : Ev W) (hB : W.heap.size ≤ B) (hb : Below B W W') : Ev W' :=
  ⟨h.spaces.below hB hb, by have := hb.size; have := h.lt; omega, by
    obtain ⟨m, hm⟩ := h.max
    exact ⟨m, (hb.cell (p := ⟨0, 0, none⟩) (Nat.lt_of_lt_of_le h.lt hB)).trans hm⟩⟩
theorem Ev.drewN {W : World} (h : Ev W) (n : Nat) : Ev (W.drewN n) := h.below (Nat.le_refl _) (below_drewN (Below.refl _ _) n)
namespace Br
theorem nums_q (s : ByteArray) (k : Nat) (c : UInt8) : s.data.toList[k]? = some c ↔ (Utf.nums s)[k]? = some (c.toNat : Int) := by
  unfold Utf.nums
  rw [List.getElem?_map]
  cases s.data.toList[k]? with
  | none => simp
  | some b => simp only [Option.map_some, Option.some.injEq]; exact ⟨fun e => by rw [e], fun e => UInt8.toNat_inj.1 (by omega)⟩
theorem occ1 (s : List UInt8) (c : UInt8) (i : Nat) : Lib.occAt s [c] i = decide (s[i]? = some c) := by
  unfold Lib.occAt
  rw [Bool.eq_iff_iff, decide_eq_true_iff, List.isPrefixOf_iff_prefix]
  have h0 : s[i]? = (s.drop i)[0]? := by rw [List.getElem?_drop]; rfl
  rw [h0]
  cases s.drop i with
  | nil => simp
  | cons a t => simp; exact ⟨fun e => e.symm, fun e => e.symm⟩
theorem occ2 (s : List UInt8) (c d : UInt8) (i : Nat) : Lib.occAt s [c, d] i = decide (s[i]? = some c ∧ s[i + 1]? = some d) := by
  unfold Lib.occAt
  rw [Bool.eq_iff_iff, decide_eq_true_iff, List.isPrefixOf_iff_prefix]
  have h0 : s[i]? = (s.drop i)[0]? := by rw [List.getElem?_drop]; rfl
  have h1 : s[i + 1]? = (s.drop i)[1]? := by rw [List.getElem?_drop]
  rw [h0, h1]
  cases s.drop i with
  | nil => simp
  | cons a t =>
    cases t with
    | nil => simp
    | cons b u => simp; exact ⟨fun e => ⟨e.1.symm, e.2.symm⟩, fun e => ⟨e.1.symm, e.2.symm⟩⟩
theorem take_extract (s : ByteArray) (k : Nat) : (⟨(s.data.toList.take k).toArray⟩ : ByteArray) = s.extract 0 k := by
  apply ByteArray.ext
  rw [ByteArray.data_extract]
  apply Array.toList_inj.1
  rw [Array.toList_extract, List.extract_eq_take_drop]; simp
theorem cut_of1 (s : ByteArray) (c : UInt8) : (upTo (c.toNat : Int) (Utf.nums s) = s.size → Lib.cut s.data.toList [c] = (s.data.toList, [], false)) ∧ (upTo (c.toNat : Int) (Utf.nums s) ≠ s.size → ∃ b, Lib.cut s.data.toList [c] = (s.data.toList.take (upTo (c.toNat : Int) (Utf.nums s)), b, true)) := by
  have hl : s.data.toList.length = s.size := by simp
  have hle := upTo_le (c.toNat : Int) (Utf.nums s)
  rw [Utf.nums_length] at hle
  constructor
  · intro h
    have : Lib.index s.data.toList [c] = -1 := Lib.index_none (fun j _ => by
      rw [occ1, decide_eq_false]
      intro e
      have e2 := (nums_q s j c).1 e
      have hj : j < s.size := by rw [← Utf.nums_length]; exact (List.getElem?_eq_some_iff.1 e2).1
      exact upTo_no _ _ j (by omega) e2)
    unfold Lib.cut
    rw [this, if_neg (by decide)]
  · intro h
    have h3 := upTo_at (c.toNat : Int) (Utf.nums s) (by rw [Utf.nums_length]; omega)
    have : Lib.index s.data.toList [c] = (upTo (c.toNat : Int) (Utf.nums s) : Nat) := Lib.index_first (by omega) (by rw [occ1, decide_eq_true_iff]; exact (nums_q s _ c).2 h3) (fun j hj => by
      rw [occ1, decide_eq_false]
      intro e
      exact upTo_no _ _ j hj ((nums_q s j c).1 e))
    unfold Lib.cut
    rw [this, if_pos (by omega), Int.toNat_natCast]
    exact ⟨_, rfl⟩
theorem cut_of2 (s : ByteArray) (c d : UInt8) : (upTo2 (c.toNat : Int) (d.toNat : Int) (Utf.nums s) = s.size → Lib.cut s.data.toList [c, d] = (s.data.toList, [], false)) ∧ (upTo2 (c.toNat : Int) (d.toNat : Int) (Utf.nums s) ≠ s.size → ∃ b, Lib.cut s.data.toList [c, d] = (s.data.toList.take (upTo2 (c.toNat : Int) (d.toNat : Int) (Utf.nums s)), b, true)) := by
  have hl : s.data.toList.length = s.size := by simp
  have hle := upTo2_le (c.toNat : Int) (d.toNat : Int) (Utf.nums s)
  rw [Utf.nums_length] at hle
  constructor
  · intro h
    have : Lib.index s.data.toList [c, d] = -1 := Lib.index_none (fun j _ => by
      rw [occ2, decide_eq_false]
      rintro ⟨e, f⟩
      have e2 := (nums_q s j c).1 e
      have hj : j < s.size := by rw [← Utf.nums_length]; exact (List.getElem?_eq_some_iff.1 e2).1
      exact upTo2_no _ _ _ j (by omega) ⟨e2, (nums_q s (j + 1) d).1 f⟩)
    unfold Lib.cut
    rw [this, if_neg (by decide)]
  · intro h
    have h3 := upTo2_at (c.toNat : Int) (d.toNat : Int) (Utf.nums s) (by rw [Utf.nums_length]; omega)
    have : Lib.index s.data.toList [c, d] = (upTo2 (c.toNat : Int) (d.toNat : Int) (Utf.nums s) : Nat) := Lib.index_first (by omega) (by rw [occ2, decide_eq_true_iff]; exact ⟨(nums_q s _ c).2 h3.1, (nums_q s _ d).2 h3.2⟩) (fun j hj => by
      rw [occ2, decide_eq_false]
      rintro ⟨e, f⟩
      exact upTo2_no _ _ _ j hj ⟨(nums_q s j c).1 e, (nums_q s (j + 1) d).1 f⟩)
    unfold Lib.cut
    rw [this, if_pos (by omega), Int.toNat_natCast]
    exact ⟨_, rfl⟩
end Br
/-- What Cut hands back: the part ahead, and whether there is one. -/
def CutPost (k : Nat) (s : ByteArray) (W : World) (e : Ending) (w' : World) : Prop := ∃ b, e = .returned (.tuple #[.string (s.extract 0 k), .string b, .bool (decide (k ≠ s.size))]) ∧ ∃ n, w' = W.drewN n
theorem extract_all (s : ByteArray) : s.extract 0 s.size = s := by
  rw [← Br.take_extract]
  apply ByteArray.ext
  rw [List.take_of_length_le (by simp)]
theorem cut_1 (W : World) (s : ByteArray) (hs : s.size ≤ 100000) (c : UInt8) (hE : Ev W) : Calls Tryz.prog 93 #[.string s, .string ⟨#[c]⟩] W (CutPost (Br.upTo (c.toNat : Int) (Utf.nums s)) s W) := by
  obtain ⟨m, hm⟩ := hE.max
  have h9 := Any.strings_Cut (P := Tryz.prog) Tryz.layCut s ⟨#[c]⟩ m W (by omega) hm
  change Calls Tryz.prog 93 _ _ _ at h9
  refine h9.mono ?_
  rintro e w' ⟨he, hw⟩
  have hc := Br.cut_of1 s c
  by_cases h : Br.upTo (c.toNat : Int) (Utf.nums s) = s.size
  · rw [hc.1 h] at he
    refine ⟨⟨([] : List UInt8).toArray⟩, ?_, hw⟩
    rw [he, h, extract_all, decide_eq_false (by simp)]
  · obtain ⟨b, hb⟩ := hc.2 h
    rw [hb] at he
    refine ⟨⟨b.toArray⟩, ?_, hw⟩
    rw [he, decide_eq_true h, ← Br.take_extract]
theorem cut_2 (W : World) (s : ByteArray) (hs : s.size ≤ 100000) (c d : UInt8) (hE : Ev W) : Calls Tryz.prog 93 #[.string s, .string ⟨#[c, d]⟩] W (CutPost (Br.upTo2 (c.toNat : Int) (d.toNat : Int) (Utf.nums s)) s W) := by
  obtain ⟨m, hm⟩ := hE.max
  have h9 := Any.strings_Cut (P := Tryz.prog) Tryz.layCut s ⟨#[c, d]⟩ m W (by omega) hm
  change Calls Tryz.prog 93 _ _ _ at h9
  refine h9.mono ?_
  rintro e w' ⟨he, hw⟩
  have hc := Br.cut_of2 s c d
  by_cases h : Br.upTo2 (c.toNat : Int) (d.toNat : Int) (Utf.nums s) = s.size
  · rw [hc.1 h] at he
    refine ⟨⟨([] : List UInt8).toArray⟩, ?_, hw⟩
    rw [he, h, extract_all, decide_eq_false (by simp)]
  · obtain ⟨b, hb⟩ := hc.2 h
    rw [hb] at he
    refine ⟨⟨b.toArray⟩, ?_, hw⟩
    rw [he, decide_eq_true h, ← Br.take_extract]
end Go.Proofs.YtecclhmjmceheaaGreatDoor
namespace Go.Proofs.YtecclhmjmceheaaGreatDoor
open Go.RowKit
theorem ret_int {k : IntKind} {a b : Int} (h : a = b) : Ending.returned (.int k a) = .returned (.int k b) := by rw [h]
theorem ret_two {k : IntKind} {a b c d : Int} (h : a = b) (h' : c = d) : Ending.returned (.tuple #[.int k a, .int k c]) = .returned (.tuple #[.int k b, .int k d]) := by rw [h, h']
/-- 'x & 0xC0' says whether x is a later byte of an encoding. -/
theorem and192 (x : Nat) (h : x < 256) : bits .and .u8 (x : Int) 192 = (x : Int) / 64 * 64 := by
  revert h; revert x; decide +kernel
theorem and63 (x : Nat) (h : x < 256) : bits .and .u8 (x : Int) 63 = (x : Int) % 64 := by
  revert h; revert x; decide +kernel
theorem toList_ne {s : ByteArray} (h : 0 < s.size) : s.toList.isEmpty = false ∧ ¬ s.toList = [] := by
  have : s.toList.length = s.size := by rw [ByteArray.toList_eq]; exact Array.length_toList
  refine ⟨?_, fun e => by rw [e] at this; simp at this; omega⟩
  rw [List.isEmpty_eq_false_iff]; intro e; rw [e] at this; simp at this; omega
theorem toList_e {s : ByteArray} (h : s.size = 0) : s.toList.isEmpty = true ∧ s.toList = [] := by
  have : s.toList.length = s.size := by rw [ByteArray.toList_eq]; exact Array.length_toList
  have e : s.toList = [] := List.eq_nil_of_length_eq_zero (by omega)
  exact ⟨by rw [e]; rfl, e⟩
theorem i64_and63 (n : Int) : bits .and .i64 n 63 = n % 64 := by
  have h63 : (BitVec.ofInt 64 63).toNat = 2 ^ 6 - 1 := by decide
  have key : (BitVec.ofInt 64 n &&& BitVec.ofInt 64 63).toNat = (n % ((2 ^ 64 : Nat) : Int)).toNat % 2 ^ 6 := by
    rw [BitVec.toNat_and, BitVec.toNat_ofInt, h63, Nat.and_two_pow_sub_one_eq_mod]
  show IntKind.i64.wrap ((BitVec.ofInt 64 n &&& BitVec.ofInt 64 63).toNat : Nat) = n % 64
  rw [key, IntKind.wrap_i64]
  omega
theorem below_drewS (w : World) (n B : Nat) : Below B w (w.drewN n) := ⟨rfl, rfl, rfl, Nat.le_refl _, fun _ _ => rfl⟩
theorem nums_append (s t : ByteArray) : Utf.nums (s ++ t) = Utf.nums s ++ Utf.nums t := by
  unfold Utf.nums; rw [ByteArray.data_append, Array.toList_append, List.map_append]
theorem nums_strOf (xs : List Int) (h : Utf.Bytes xs) : Utf.nums (strOfNums xs) = xs := by
  unfold Utf.nums strOfNums
  simp only [List.map_map]
  conv => rhs; rw [← List.map_id xs]
  apply List.map_congr_left
  intro x hx
  have := h x hx
  simp only [Function.comp, UInt8.toNat_ofNat', id]
  omega
theorem size_strOf (xs : List Int) : (strOfNums xs).size = xs.length := by
  unfold strOfNums; show (List.toArray _).size = _; simp
theorem nums_inj {s t : ByteArray} (h : Utf.nums s = Utf.nums t) : s = t := by
  apply ByteArray.ext
  apply Array.toList_inj.1
  unfold Utf.nums at h
  exact List.map_inj_right (fun a b e => UInt8.toNat_inj.1 (by exact_mod_cast e)) |>.1 h
theorem refWidth_any (r : Int) (w : World) : Calls Tryz.prog 135 #[.int .i64 r] w fun e w' => e = .returned (.int .i64 (Utf.width r)) ∧ w = w' := by
  go_enter Tryz.func135, Tryz.ntmps135
  go_wp2
  all_goals
    go_ret
    refine ⟨ret_int ?_, rfl⟩
    unfold Utf.width
    repeat (first | omega | rfl | split)
end Go.Proofs.YtecclhmjmceheaaGreatDoor
namespace Go.Proofs.YtecclhmjmceheaaGreatDoor
open Go.RowKit
set_option linter.unusedVariables false
set_option maxRecDepth 100000 in
set_option maxHeartbeats 1000000 in
theorem bDigit_any (W : World) (c : Int) (h0 : 0 ≤ c) (h1 : c ≤ 255) : Calls Tryz.prog 152 #[.int .u8 c] W fun e w' => e = .returned (.int .i64 (Br.dig c)) ∧ W = w' := by
  have HD : Hid (Br.dig c = Br.dig c) := Lib.hid rfl
  by_cases a : 48 ≤ c
  · by_cases b : c ≤ 57
    · have hw : IntKind.u8.wrap (c - 48) = c - 48 := by rw [IntKind.wrap_u8]; omega
      have e : Br.dig c = c - 48 := by unfold Br.dig; rw [if_pos ⟨a, b⟩]
      rw [e]
      go_enter Tryz.func152, Tryz.ntmps152
      go_wp2
      go_ret
      exact ⟨rfl, rfl⟩
    · by_cases a2 : 97 ≤ c
      · by_cases b2 : c ≤ 102
        · have hw : IntKind.u8.wrap (c - 97) = c - 97 := by rw [IntKind.wrap_u8]; omega
          have hw2 : IntKind.i64.wrap (c - 97 + 10) = c - 87 := by rw [IntKind.wrap_i64]; omega
          have e : Br.dig c = c - 87 := by unfold Br.dig; rw [if_neg (by omega), if_pos ⟨a2, b2⟩]
          rw [e]
          go_enter Tryz.func152, Tryz.ntmps152
          go_wp2
          go_ret
          exact ⟨rfl, rfl⟩
        · have e : Br.dig c = -1 := by unfold Br.dig; rw [if_neg (by omega), if_neg (by omega), if_neg (by omega)]
          rw [e]
          have h9 : ¬ c ≤ 70 := by omega
          go_enter Tryz.func152, Tryz.ntmps152
          go_wp2
          go_ret
          exact ⟨rfl, rfl⟩
      · by_cases a3 : 65 ≤ c
        · by_cases b3 : c ≤ 70
          · have hw : IntKind.u8.wrap (c - 65) = c - 65 := by rw [IntKind.wrap_u8]; omega
            have hw2 : IntKind.i64.wrap (c - 65 + 10) = c - 55 := by rw [IntKind.wrap_i64]; omega
            have e : Br.dig c = c - 55 := by unfold Br.dig; rw [if_neg (by omega), if_neg (by omega), if_pos ⟨a3, b3⟩]
            rw [e]
            go_enter Tryz.func152, Tryz.ntmps152
            go_wp2
            go_ret
            exact ⟨rfl, rfl⟩
          · have e : Br.dig c = -1 := by unfold Br.dig; rw [if_neg (by omega), if_neg (by omega), if_neg (by omega)]
            rw [e]
            go_enter Tryz.func152, Tryz.ntmps152
            go_wp2
            go_ret
            exact ⟨rfl, rfl⟩
        · have e : Br.dig c = -1 := by unfold Br.dig; rw [if_neg (by omega), if_neg (by omega), if_neg (by omega)]
          rw [e]
          go_enter Tryz.func152, Tryz.ntmps152
          go_wp2
          go_ret
          exact ⟨rfl, rfl⟩
  · have e : Br.dig c = -1 := by unfold Br.dig; rw [if_neg (by omega), if_neg (by omega), if_neg (by omega)]
    rw [e]
    have h7 : ¬ 97 ≤ c := by omega
    have h8 : ¬ 65 ≤ c := by omega
    go_enter Tryz.func152, Tryz.ntmps152
    go_wp2
    go_ret
    exact ⟨rfl, rfl⟩
theorem bLet_yes {c : Int} (h : 65 ≤ c ∧ c ≤ 90 ∨ 97 ≤ c ∧ c ≤ 122) : Br.letB c = true := by unfold Br.letB; rcases h with h | h <;> simp [h]
theorem bLet_no {c : Int} (h : ¬ (65 ≤ c ∧ c ≤ 90 ∨ 97 ≤ c ∧ c ≤ 122)) : Br.letB c = false := by
  cases hb : Br.letB c with
  | false => rfl
  | true => unfold Br.letB at hb; simp at hb; omega
set_option maxRecDepth 100000 in
set_option maxHeartbeats 1000000 in
theorem bLetter_any (W : World) (c : Int) (h0 : 0 ≤ c) (h1 : c ≤ 255) : Calls Tryz.prog 197 #[.int .u8 c] W fun e w' => e = .returned (.bool (Br.letB c)) ∧ W = w' := by
  by_cases a : 65 ≤ c
  · by_cases b : c ≤ 90
    · rw [bLet_yes (.inl ⟨a, b⟩)]
      go_enter Tryz.func197, Tryz.ntmps197
      go_wp2
      go_ret
      exact ⟨rfl, rfl⟩
    · by_cases d : 97 ≤ c
      · by_cases f : c ≤ 122
        · rw [bLet_yes (.inr ⟨d, f⟩)]
          go_enter Tryz.func197, Tryz.ntmps197
          go_wp2
          go_ret
          exact ⟨rfl, rfl⟩
        · rw [bLet_no (by omega)]
          go_enter Tryz.func197, Tryz.ntmps197
          go_wp2
          go_ret
          exact ⟨rfl, rfl⟩
      · rw [bLet_no (by omega)]
        go_enter Tryz.func197, Tryz.ntmps197
        go_wp2
        go_ret
        exact ⟨rfl, rfl⟩
  · have d : ¬ 97 ≤ c := by omega
    rw [bLet_no (by omega)]
    go_enter Tryz.func197, Tryz.ntmps197
    go_wp2
    go_ret
    exact ⟨rfl, rfl⟩
theorem bSign_yes {c : Int} (h1 : 33 ≤ c) (h2 : c ≤ 126) (h3 : Br.letB c = false) (h4 : ¬ (48 ≤ c ∧ c ≤ 57)) : Br.signB c = true := by
  unfold Br.signB
  rw [h3]
  simp [h1, h2]
  omega
theorem bSign_no {c : Int} (h : ¬ (33 ≤ c ∧ c ≤ 126) ∨ Br.letB c = true ∨ (48 ≤ c ∧ c ≤ 57)) : Br.signB c = false := by
  cases hb : Br.signB c with
  | false => rfl
  | true =>
    unfold Br.signB at hb
    simp at hb
    rcases h with h | h | h
    · omega
    · rw [hb.1.2] at h; cases h
    · omega
set_option maxRecDepth 100000 in
set_option maxHeartbeats 1000000 in
theorem bSign_any (W : World) (c : Int) (h0 : 0 ≤ c) (h1 : c ≤ 255) : Calls Tryz.prog 151 #[.int .u8 c] W fun e w' => e = .returned (.bool (Br.signB c)) ∧ W = w' := by
  by_cases a : 33 ≤ c
  · by_cases b : c ≤ 126
    · have HL := Lib.hid (bLetter_any W c h0 h1)
      cases hl : Br.letB c with
      | true =>
        have HS := Lib.hid (bSign_no (.inr (.inl hl)))
        rw [hl] at HL
        clear hl
        go_enter Tryz.func151, Tryz.ntmps151
        go_wp2_with (go_at_call 197; refine HL.out.mono ?_; rintro e w' ⟨rfl, rfl⟩)
        go_ret
        exact ⟨by rw [HS.out]; rfl, rfl⟩
      | false =>
        rw [hl] at HL
        by_cases d : c < 48
        · have HS := Lib.hid (bSign_yes a b hl (by omega))
          clear hl
          go_enter Tryz.func151, Tryz.ntmps151
          go_wp2_with (go_at_call 197; refine HL.out.mono ?_; rintro e w' ⟨rfl, rfl⟩)
          go_ret
          exact ⟨by rw [HS.out]; rfl, rfl⟩
        · by_cases f : 57 < c
          · have HS := Lib.hid (bSign_yes a b hl (by omega))
            clear hl
            go_enter Tryz.func151, Tryz.ntmps151
            go_wp2_with (go_at_call 197; refine HL.out.mono ?_; rintro e w' ⟨rfl, rfl⟩)
            go_ret
            exact ⟨by rw [HS.out]; rfl, rfl⟩
          · have HS := Lib.hid (bSign_no (c := c) (.inr (.inr (by omega))))
            have h8 : (decide (c < 48) || decide (57 < c)) = false := by simp; omega
            have H8 := Lib.hid h8
            clear hl h8
            go_enter Tryz.func151, Tryz.ntmps151
            go_wp2_with (go_at_call 197; refine HL.out.mono ?_; rintro e w' ⟨rfl, rfl⟩)
            go_ret
            exact ⟨by rw [HS.out]; exact congrArg (fun b => Ending.returned (.bool b)) H8.out, rfl⟩
    · have HS := Lib.hid (bSign_no (c := c) (.inl (by omega)))
      go_enter Tryz.func151, Tryz.ntmps151
      go_wp2
      go_ret
      exact ⟨by rw [HS.out]; rfl, rfl⟩
  · have HS := Lib.hid (bSign_no (c := c) (.inl (by omega)))
    go_enter Tryz.func151, Tryz.ntmps151
    go_wp2
    go_ret
    exact ⟨by rw [HS.out]; rfl, rfl⟩
theorem toList_pre (s : ByteArray) (k : Nat) : (s.extract 0 k).toList = s.data.toList.take k := by
  rw [ByteArray.toList_eq, ByteArray.data_extract, Array.toList_extract, List.extract_eq_take_drop]; simp
theorem nums_some (s : ByteArray) (k : Nat) : (Utf.nums s)[k]? = (s.data.toList[k]?).map (fun b => (b.toNat : Int)) := by unfold Utf.nums; rw [List.getElem?_map]
theorem byte_inj {a b : UInt8} (h : (a.toNat : Int) = (b.toNat : Int)) : a = b := UInt8.toNat_inj.1 (by omega)
theorem pre1 (s : ByteArray) (c : UInt8) (hc : c ≠ 0) : ((s.extract 0 1).toList == [c]) = decide ((Utf.nums s)[0]?.getD 0 = (c.toNat : Int)) := by
  have hc9 : (c.toNat : Int) ≠ 0 := fun e => hc (byte_inj (b := 0) (by rw [e]; rfl))
  rw [toList_pre, nums_some]
  cases h : s.data.toList with
  | nil => simp; omega
  | cons a t =>
    rw [Bool.eq_iff_iff]
    simp
    exact ⟨fun e => by rw [e], fun e => UInt8.toNat_inj.1 (by omega)⟩
theorem pre2 (s : ByteArray) (c d : UInt8) : ((s.extract 0 2).toList == [c, d]) = decide ((Utf.nums s)[0]? = some (c.toNat : Int) ∧ (Utf.nums s)[1]? = some (d.toNat : Int)) := by
  rw [toList_pre, nums_some, nums_some]
  cases h : s.data.toList with
  | nil => simp
  | cons a t =>
    cases t with
    | nil => simp
    | cons b u =>
      rw [Bool.eq_iff_iff]
      simp
      exact ⟨fun e => by rw [e.1, e.2]; exact ⟨rfl, rfl⟩, fun e => ⟨UInt8.toNat_inj.1 (by omega), UInt8.toNat_inj.1 (by omega)⟩⟩
set_option maxRecDepth 100000 in
set_option maxHeartbeats 1000000 in
theorem hasPre1 (W : World) (s : ByteArray) (c : UInt8) (hc : c ≠ 0) : Calls Tryz.prog 32 #[.string s, .string ⟨#[c]⟩] W fun e w' => e = .returned (.bool (decide ((Utf.nums s)[0]?.getD 0 = (c.toNat : Int)))) ∧ W = w' := by
  have hc9 : (c.toNat : Int) ≠ 0 := fun e => hc (byte_inj (b := 0) (by rw [e]; rfl))
  by_cases h : (s.size : Int) < 1
  · have HE : Hid (decide ((Utf.nums s)[0]?.getD 0 = (c.toNat : Int)) = false) := Lib.hid (decide_eq_false (by
      rw [List.getElem?_eq_none (by rw [Utf.nums_length]; omega)]; simp; omega))
    go_enter Tryz.func32, Tryz.ntmps32
    go_wp2
    go_ret
    exact ⟨by rw [HE.out]; rfl, rfl⟩
  · have HE := Lib.hid (pre1 s c hc)
    go_enter Tryz.func32, Tryz.ntmps32
    go_wp2
    go_ret
    exact ⟨by rw [← HE.out]; rfl, rfl⟩
set_option maxRecDepth 100000 in
set_option maxHeartbeats 1000000 in
theorem hasPre2 (W : World) (s : ByteArray) (c d : UInt8) : Calls Tryz.prog 32 #[.string s, .string ⟨#[c, d]⟩] W fun e w' => e = .returned (.bool (decide ((Utf.nums s)[0]? = some (c.toNat : Int) ∧ (Utf.nums s)[1]? = some (d.toNat : Int)))) ∧ W = w' := by
  obtain ⟨q, hq⟩ : ∃ q, decide ((Utf.nums s)[0]? = some (c.toNat : Int) ∧ (Utf.nums s)[1]? = some (d.toNat : Int)) = q := ⟨_, rfl⟩
  rw [hq]
  by_cases h : (s.size : Int) < 2
  · have HE : Hid (q = false) := Lib.hid (hq.symm.trans <| decide_eq_false (by
      rintro ⟨_, e⟩
      rw [List.getElem?_eq_none (by rw [Utf.nums_length]; omega)] at e; cases e))
    clear hq
    go_enter Tryz.func32, Tryz.ntmps32
    go_wp2
    go_ret
    exact ⟨by rw [HE.out]; rfl, rfl⟩
  · have HE := Lib.hid ((pre2 s c d).trans hq)
    clear hq
    go_enter Tryz.func32, Tryz.ntmps32
    go_wp2
    go_ret
    exact ⟨by rw [← HE.out]; rfl, rfl⟩
set_option maxRecDepth 100000 in
set_option maxHeartbeats 4000000 in
theorem bPlain_any (W : World) (c : Int) (h0 : 0 ≤ c) (h1 : c ≤ 255) : Calls Tryz.prog 118 #[.int .u8 c] W fun e w' => e = .returned (.tuple #[.int .i64 (Br.plain c).1, .int .i64 (Br.plain c).2.1, .int .i64 (Br.plain c).2.2]) ∧ W = w' := by
  by_cases e97 : c = 97
  · subst e97
    go_enter Tryz.func118, Tryz.ntmps118
    go_wp2
    go_ret3
    exact ⟨rfl, rfl⟩
  by_cases e116 : c = 116
  · subst e116
    go_enter Tryz.func118, Tryz.ntmps118
    go_wp2
    go_ret3
    exact ⟨rfl, rfl⟩
  by_cases e110 : c = 110
  · subst e110
    go_enter Tryz.func118, Tryz.ntmps118
    go_wp2
    go_ret3
    exact ⟨rfl, rfl⟩
  by_cases e118 : c = 118
  · subst e118
    go_enter Tryz.func118, Tryz.ntmps118
    go_wp2
    go_ret3
    exact ⟨rfl, rfl⟩
  by_cases e102 : c = 102
  · subst e102
    go_enter Tryz.func118, Tryz.ntmps118
    go_wp2
    go_ret3
    exact ⟨rfl, rfl⟩
  by_cases e114 : c = 114
  · subst e114
    go_enter Tryz.func118, Tryz.ntmps118
    go_wp2
    go_ret3
    exact ⟨rfl, rfl⟩
  have HS := Lib.hid (bSign_any W c h0 h1)
  have hp : Br.plain c = if Br.signB c = true then (c, 2, 0) else (0, 0, 80) := by
    unfold Br.plain
    rw [if_neg e97, if_neg e116, if_neg e110, if_neg e118, if_neg e102, if_neg e114]
  cases hs : Br.signB c with
  | true =>
    rw [hs, if_pos rfl] at hp
    rw [hs] at HS
    rw [hp]
    clear hp hs
    go_enter Tryz.func118, Tryz.ntmps118
    go_wp2_with (go_at_call 151; refine HS.out.mono ?_; rintro e w' ⟨rfl, rfl⟩)
    go_ret3
    exact ⟨rfl, rfl⟩
  | false =>
    rw [hs, if_neg (by decide)] at hp
    rw [hs] at HS
    rw [hp]
    clear hp hs
    go_enter Tryz.func118, Tryz.ntmps118
    go_wp2_with (go_at_call 151; refine HS.out.mono ?_; rintro e w' ⟨rfl, rfl⟩)
    go_ret3
    exact ⟨rfl, rfl⟩
end Go.Proofs.YtecclhmjmceheaaGreatDoor
