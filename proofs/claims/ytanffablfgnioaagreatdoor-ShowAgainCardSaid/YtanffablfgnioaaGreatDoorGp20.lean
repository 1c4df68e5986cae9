/- Functions of the library: the library's contracts, laid over this translation. · strings.Cut at a closing brace and at :]; what a call needs of the library's variables. · Strings as numbers, bits, and small laws that every text on utf or its reference uses; the reference's Width. · The landed bracket: digit, isLetter, isSign, plain; strings.HasPrefix at one byte and at two. · The landed bracket: digits. · The landed bracket: braced. -/
import Derived.Shelf.Strings.Cut
import Derived.Test.YtanffablfgnioaaGreatDoorProg
import Derived.Test.YtanffablfgnioaaGreatDoorGp3
import Derived.Test.YtanffablfgnioaaGreatDoorGp19
import Derived.Shelf.Vars
import Derived.Lib.IndexLaws
import Derived.Lib.Index
import Derived.Test.YtanffablfgnioaaGreatDoorRows
import Derived.Test.YtanffablfgnioaaGreatDoorGp2
import Derived.WalkKit
import Derived.OwnWalk
import Derived.WalkLawsBesides
import Derived.WalkSpells
import Derived.Lib.Hide
import Derived.Deep.QuietTactic
import Derived.BigQuiet
import Derived.Laws.BitsLemmas
import Derived.Laws.Bits128
import Derived.Laws.Rows
import Derived.Laws.BytesArg
import Derived.Laws.IdiomStrings
import Derived.IntWalk
namespace Go.Proofs
open Go.Shelf
def Tryz.layCut_ren : Go.Shelf.Ren := ⟨fun | 145 => 60 | 220 => 90 | 219 => 123 | 217 => 158 | 225 => 157 | 224 => 156 | 267 => 159 | 266 => 184 | 314 => 185 | n => n, fun | 9 => 9 | 4 => 4 | 59 => 101 | 3 => 3 | 5 => 5 | 46 => 107 | 146 => 205 | 51 => 191 | n => n, fun | 1 => 0 | n => n⟩
theorem Tryz.layCut : Go.Proofs.Lays.n145 Tryz.prog Tryz.layCut_ren := {
  mixed := by kernel_rfl
  f145 := Tryz.func60.trans (congrArg some (by kernel_rfl))
  f217 := Tryz.func158.trans (congrArg some (by kernel_rfl))
  f219 := Tryz.func123.trans (congrArg some (by kernel_rfl))
  f220 := Tryz.func90.trans (congrArg some (by kernel_rfl))
  f224 := Tryz.func156.trans (congrArg some (by kernel_rfl))
  f225 := Tryz.func157.trans (congrArg some (by kernel_rfl))
  f266 := Tryz.func184.trans (congrArg some (by kernel_rfl))
  f267 := Tryz.func159.trans (congrArg some (by kernel_rfl))
  f314 := Tryz.func185.trans (congrArg some (by kernel_rfl))
  t3 := Tryz.underlying3
  a3 := Tryz.isAgg3
  z3 := Tryz.sizeOf3
  v3 := Tryz.zeroValue3
  t4 := Tryz.underlying4
  a4 := Tryz.isAgg4
  z4 := Tryz.sizeOf4
  v4 := Tryz.zeroValue4
  t5 := Tryz.underlying5
  a5 := Tryz.isAgg5
  z5 := Tryz.sizeOf5
  v5 := Tryz.zeroValue5
  t9 := Tryz.underlying9
  a9 := Tryz.isAgg9
  z9 := Tryz.sizeOf9
  v9 := Tryz.zeroValue9
  t46 := Tryz.underlying107
  a46 := Tryz.isAgg107
  z46 := Tryz.sizeOf107
  v46 := Tryz.zeroValue107
  t51 := Tryz.underlying191
  a51 := Tryz.isAgg191
  z51 := Tryz.sizeOf191
  v51 := Tryz.zeroValue191
  t59 := Tryz.underlying101
  a59 := Tryz.isAgg101
  z59 := Tryz.sizeOf101
  v59 := Tryz.zeroValue101
  t146 := Tryz.underlying205
  a146 := Tryz.isAgg205
  z146 := Tryz.sizeOf205
  v146 := Tryz.zeroValue205
  g1 := by kernel_rfl }
end Go.Proofs
namespace Go.Proofs.YtanffablfgnioaaGreatDoor
open Go.RowKit Go.Shelf
set_option linter.unusedVariables false
/-- The table of spaces, and some number in the library's variable MaxLen. -/
structure Ev (W : World) : Prop where
  spaces : Spaces W
  lt : 0 < W.heap.size
  max : ∃ m, W.cell? ⟨0, 0, none⟩ = some (.int .i64 m)
theorem Ev.below {W W' : World} {B : Nat} (h : Ev W) (hB : W.heap.size ≤ B) (hb : Below B W W') : Ev W' :=
  ⟨h.spaces.below hB hb, by have := hb.size; have := h.lt; omega, by
    obtain ⟨m, hm⟩ := h.max
    exact ⟨m, (hb.cell (p := ⟨0, 0, none⟩) (Nat.lt_of_lt_of_le h.lt hB)).trans hm⟩⟩
theorem Ev.drewN {W : World} (h : Ev W) (n : Nat) : Ev (W.drewN n) := h.below (Nat.le_refl _) (below_drewN (Below.refl _ _) n)
namespace Br
theorem nums_q (s : ByteArray) (k : Nat) (c : UInt8) : s.data.toList[k]? = some c ↔ (Utf.nums s)[k]? = some (c.toNat : Int) := by
  unfold Utf.nums
  rw [List.getElem?_map]
  cases s.data.toList[k]? with
  | none => simp
  | some b => simp only [Option.map_some, Option.some.injEq]; exact ⟨fun e => by rw [e], fun e => UInt8.toNat_inj.1 (by omega)⟩
theorem occ1 (s : List UInt8) (c : UInt8) (i : Nat) : Lib.occAt s [c] i = decide (s[i]? = some c) := by
  unfold Lib.occAt
  rw [Bool.eq_iff_iff, decide_eq_true_iff, List.isPrefixOf_iff_prefix]
  have h0 : s[i]? = (s.drop i)[0]? := by rw [List.getElem?_drop]; rfl
  rw [h0]
  cases s.drop i with
  | nil => simp
  | cons a t => simp; exact ⟨fun e => e.symm, fun e => e.symm⟩
theorem occ2 (s : List UInt8) (c d : UInt8) (i : Nat) : Lib.occAt s [c, d] i = decide (s[i]? = some c ∧ s[i + 1]? = some d) := by
  unfold Lib.occAt
  rw [Bool.eq_iff_iff, decide_eq_true_iff, List.isPrefixOf_iff_prefix]
  have h0 : s[i]? = (s.drop i)[0]? := by rw [List.getElem?_drop]; rfl
  have h1 : s[i + 1]? = (s.drop i)[1]? := by rw [List.getElem?_drop]
  rw [h0, h1]
  cases s.drop i with
  | nil => simp
  | cons a t =>
    cases t with
    | nil => simp
    | cons b u => simp; exact ⟨fun e => ⟨e.1.symm, e.2.symm⟩, fun e => ⟨e.1.symm, e.2.symm⟩⟩
theorem take_extract (s : ByteArray) (k : Nat) : (⟨(s.data.toList.take k).toArray⟩ : ByteArray) = s.extract 0 k := by
  apply ByteArray.ext
  rw [ByteArray.data_extract]
  apply Array.toList_inj.1
  rw [Array.toList_extract, List.extract_eq_take_drop]; simp
theorem cut_of1 (s : ByteArray) (c : UInt8) : (upTo (c.toNat : Int) (Utf.nums s) = s.size → Lib.cut s.data.toList [c] = (s.data.toList, [], false)) ∧ (upTo (c.toNat : Int) (Utf.nums s) ≠ s.size → ∃ b, Lib.cut s.data.toList [c] = (s.data.toList.take (upTo (c.toNat : Int) (Utf.nums s)), b, true)) := by
  have hl : s.data.toList.length = s.size := by simp
  have hle := upTo_le (c.toNat : Int) (Utf.nums s)
  rw [Utf.nums_length] at hle
  constructor
  · intro h
    have : Lib.index s.data.toList [c] = -1 := Lib.index_none (fun j _ => by
      rw [occ1, decide_eq_false]
      intro e
      have e2 := (nums_q s j c).1 e
      have hj : j < s.size := by rw [← Utf.nums_length]; exact (List.getElem?_eq_some_iff.1 e2).1
      exact upTo_no _ _ j (by omega) e2)
    unfold Lib.cut
    rw [this, if_neg (by decide)]
  · intro h
    have h3 := upTo_at (c.toNat : Int) (Utf.nums s) (by rw [Utf.nums_length]; omega)
    have : Lib.index s.data.toList [c] = (upTo (c.toNat : Int) (Utf.nums s) : Nat) := Lib.index_first (by omega) (by rw [occ1, decide_eq_true_iff]; exact (nums_q s _ c).2 h3) (fun j hj => by
      rw [occ1, decide_eq_false]
      intro e
      exact upTo_no _ _ j hj ((nums_q s j c).1 e))
    unfold Lib.cut
    rw [this, if_pos (by omega), Int.toNat_natCast]
    exact ⟨_, rfl⟩
theorem cut_of2 (s : ByteArray) (c d : UInt8) : (upTo2 (c.toNat : Int) (d.toNat : Int) (Utf.nums s) = s.size → Lib.cut s.data.toList [c, d] = (s.data.toList, [], false)) ∧ (upTo2 (c.toNat : Int) (d.toNat : Int) (Utf.nums s) ≠ s.size → ∃ b, Lib.cut s.data.toList [c, d] = (s.data.toList.take (upTo2 (c.toNat : Int) (d.toNat : Int) (Utf.nums s)), b, true)) := by
  have hl : s.data.toList.length = s.size := by simp
  have hle := upTo2_le (c.toNat : Int) (d.toNat : Int) (Utf.nums s)
  rw [Utf.nums_length] at hle
  constructor
  · intro h
    have : Lib.index s.data.toList [c, d] = -1 := Lib.index_none (fun j _ => by
      rw [occ2, decide_eq_false]
      rintro ⟨e, f⟩
      have e2 := (nums_q s j c).1 e
      have hj : j < s.size := by rw [← Utf.nums_length]; exact (List.getElem?_eq_some_iff.1 e2).1
      exact upTo2_no _ _ _ j (by omega) ⟨e2, (nums_q s (j + 1) d).1 f⟩)
    unfold Lib.cut
    rw [this, if_neg (by decide)]
  · intro h
    have h3 := upTo2_at (c.toNat : Int) (d.toNat : Int) (Utf.nums s) (by rw [Utf.nums_length]; omega)
    have : Lib.index s.data.toList [c, d] = (upTo2 (c.toNat : Int) (d.toNat : Int) (Utf.nums s) : Nat) := Lib.index_first (by omega) (by rw [occ2, decide_eq_true_iff]; exact ⟨(nums_q s _ c).2 h3.1, (nums_q s _ d).2 h3.2⟩) (fun j hj => by
      rw [occ2, decide_eq_false]
      rintro ⟨e, f⟩
      exact upTo2_no _ _ _ j hj ⟨(nums_q s j c).1 e, (nums_q s (j + 1) d).1 f⟩)
    unfold Lib.cut
    rw [this, if_pos (by omega), Int.toNat_natCast]
    exact ⟨_, rfl⟩
end Br
/-- What Cut hands back: the part ahead, and whether there is one. -/
def CutPost (k : Nat) (s : ByteArray) (W : World) (e : Ending) (w' : World) : Prop := ∃ b, e = .returned (.tuple #[.string (s.extract 0 k), .string b, .bool (decide (k ≠ s.size))]) ∧ ∃ n, w' = W.drewN n
theorem extract_all (s : ByteArray) : s.extract 0 s.size = s := by
  rw [← Br.take_extract]
  apply ByteArray.ext
  rw [List.take_of_length_le (by simp)]
theorem cut_1 (W : World) (s : ByteArray) (hs : s.size ≤ 100000) (c : UInt8) (hE : Ev W) : Calls Tryz.prog 60 #[.string s, .string ⟨#[c]⟩] W (CutPost (Br.upTo (c.toNat : Int) (Utf.nums s)) s W) := by
  obtain ⟨m, hm⟩ := hE.max
  have h9 := Any.strings_Cut (P := Tryz.prog) Tryz.layCut s ⟨#[c]⟩ m W (by omega) hm
  change Calls Tryz.prog 60 _ _ _ at h9
  refine h9.mono ?_
  rintro e w' ⟨he, hw⟩
  have hc := Br.cut_of1 s c
  by_cases h : Br.upTo (c.toNat : Int) (Utf.nums s) = s.size
  · rw [hc.1 h] at he
    refine ⟨⟨([] : List UInt8).toArray⟩, ?_, hw⟩
    rw [he, h, extract_all, decide_eq_false (by simp)]
  · obtain ⟨b, hb⟩ := hc.2 h
    rw [hb] at he
    refine ⟨⟨b.toArray⟩, ?_, hw⟩
    rw [he, decide_eq_true h, ← Br.take_extract]
theorem cut_2 (W : World) (s : ByteArray) (hs : s.size ≤ 100000) (c d : UInt8) (hE : Ev W) : Calls Tryz.prog 60 #[.string s, .string ⟨#[c, d]⟩] W (CutPost (Br.upTo2 (c.toNat : Int) (d.toNat : Int) (Utf.nums s)) s W) := by
  obtain ⟨m, hm⟩ := hE.max
  have h9 := Any.strings_Cut (P := Tryz.prog) Tryz.layCut s ⟨#[c, d]⟩ m W (by omega) hm
  change Calls Tryz.prog 60 _ _ _ at h9
  refine h9.mono ?_
  rintro e w' ⟨he, hw⟩
  have hc := Br.cut_of2 s c d
  by_cases h : Br.upTo2 (c.toNat : Int) (d.toNat : Int) (Utf.nums s) = s.size
  · rw [hc.1 h] at he
    refine ⟨⟨([] : List UInt8).toArray⟩, ?_, hw⟩
    rw [he, h, extract_all, decide_eq_false (by simp)]
  · obtain ⟨b, hb⟩ := hc.2 h
    rw [hb] at he
    refine ⟨⟨b.toArray⟩, ?_, hw⟩
    rw [he, decide_eq_true h, ← Br.take_extract]
end Go.Proofs.YtanffablfgnioaaGreatDoor
namespace Go.Proofs.YtanffablfgnioaaGreatDoor
open Go.RowKit
theorem ret_int {k : IntKind} {a b : Int} (h : a = b) : Ending.returned (.int k a) = .returned (.int k b) := by rw [h]
/-- 'x & 0xC0' says whether x is a later byte of an encoding. -/
theorem and192 (x : Nat) (h : x < 256) : bits .and .u8 (x : Int) 192 = (x : Int) / 64 * 64 := by
  revert h; revert x; decide +kernel
theorem and63 (x : Nat) (h : x < 256) : bits .and .u8 (x : Int) 63 = (x : Int) % 64 := by
  revert h; revert x; decide +kernel
theorem toList_ne {s : ByteArray} (h : 0 < s.size) : s.toList.isEmpty = false ∧ ¬ s.toList = [] := by
  have : s.toList.length = s.size := by rw [ByteArray.toList_eq]; exact Array.length_toList
  refine ⟨?_, fun e => by rw [e] at this; simp at this; omega⟩
  rw [List.isEmpty_eq_false_iff]; intro e; rw [e] at this; simp at this; omega
theorem toList_e {s : ByteArray} (h : s.size = 0) : s.toList.isEmpty = true ∧ s.toList = [] := by
  have : s.toList.length = s.size := by rw [ByteArray.toList_eq]; exact Array.length_toList
  have e : s.toList = [] := List.eq_nil_of_length_eq_zero (by omega)
  exact ⟨by rw [e]; rfl, e⟩
end Go.Proofs.YtanffablfgnioaaGreatDoor
namespace Go.Proofs.YtanffablfgnioaaGreatDoor
open Go.RowKit
set_option linter.unusedVariables false
set_option maxRecDepth 100000 in
set_option maxHeartbeats 1000000 in
theorem bDigit_any (W : World) (c : Int) (h0 : 0 ≤ c) (h1 : c ≤ 255) : Calls Tryz.prog 107 #[.int .u8 c] W fun e w' => e = .returned (.int .i64 (Br.dig c)) ∧ W = w' := by
  have HD : Hid (Br.dig c = Br.dig c) := Lib.hid rfl
  by_cases a : 48 ≤ c
  · by_cases b : c ≤ 57
    · have hw : IntKind.u8.wrap (c - 48) = c - 48 := by rw [IntKind.wrap_u8]; omega
      have e : Br.dig c = c - 48 := by unfold Br.dig; rw [if_pos ⟨a, b⟩]
      rw [e]
      go_enter Tryz.func107, Tryz.ntmps107
      go_wp2
      go_ret
      exact ⟨rfl, rfl⟩
    · by_cases a2 : 97 ≤ c
      · by_cases b2 : c ≤ 102
        · have hw : IntKind.u8.wrap (c - 97) = c - 97 := by rw [IntKind.wrap_u8]; omega
          have hw2 : IntKind.i64.wrap (c - 97 + 10) = c - 87 := by rw [IntKind.wrap_i64]; omega
          have e : Br.dig c = c - 87 := by unfold Br.dig; rw [if_neg (by omega), if_pos ⟨a2, b2⟩]
          rw [e]
          go_enter Tryz.func107, Tryz.ntmps107
          go_wp2
          go_ret
          exact ⟨rfl, rfl⟩
        · have e : Br.dig c = -1 := by unfold Br.dig; rw [if_neg (by omega), if_neg (by omega), if_neg (by omega)]
          rw [e]
          have h9 : ¬ c ≤ 70 := by omega
          go_enter Tryz.func107, Tryz.ntmps107
          go_wp2
          go_ret
          exact ⟨rfl, rfl⟩
      · by_cases a3 : 65 ≤ c
        · by_cases b3 : c ≤ 70
          · have hw : IntKind.u8.wrap (c - 65) = c - 65 := by rw [IntKind.wrap_u8]; omega
            have hw2 : IntKind.i64.wrap (c - 65 + 10) = c - 55 := by rw [IntKind.wrap_i64]; omega
            have e : Br.dig c = c - 55 := by unfold Br.dig; rw [if_neg (by omega), if_neg (by omega), if_pos ⟨a3, b3⟩]
            rw [e]
            go_enter Tryz.func107, Tryz.ntmps107
            go_wp2
            go_ret
            exact ⟨rfl, rfl⟩
          · have e : Br.dig c = -1 := by unfold Br.dig; rw [if_neg (by omega), if_neg (by omega), if_neg (by omega)]
            rw [e]
            go_enter Tryz.func107, Tryz.ntmps107
            go_wp2
            go_ret
            exact ⟨rfl, rfl⟩
        · have e : Br.dig c = -1 := by unfold Br.dig; rw [if_neg (by omega), if_neg (by omega), if_neg (by omega)]
          rw [e]
          go_enter Tryz.func107, Tryz.ntmps107
          go_wp2
          go_ret
          exact ⟨rfl, rfl⟩
  · have e : Br.dig c = -1 := by unfold Br.dig; rw [if_neg (by omega), if_neg (by omega), if_neg (by omega)]
    rw [e]
    have h7 : ¬ 97 ≤ c := by omega
    have h8 : ¬ 65 ≤ c := by omega
    go_enter Tryz.func107, Tryz.ntmps107
    go_wp2
    go_ret
    exact ⟨rfl, rfl⟩
theorem bLet_yes {c : Int} (h : 65 ≤ c ∧ c ≤ 90 ∨ 97 ≤ c ∧ c ≤ 122) : Br.letB c = true := by unfold Br.letB; rcases h with h | h <;> simp [h]
theorem bLet_no {c : Int} (h : ¬ (65 ≤ c ∧ c ≤ 90 ∨ 97 ≤ c ∧ c ≤ 122)) : Br.letB c = false := by
  cases hb : Br.letB c with
  | false => rfl
  | true => unfold Br.letB at hb; simp at hb; omega
set_option maxRecDepth 100000 in
set_option maxHeartbeats 1000000 in
theorem bLetter_any (W : World) (c : Int) (h0 : 0 ≤ c) (h1 : c ≤ 255) : Calls Tryz.prog 137 #[.int .u8 c] W fun e w' => e = .returned (.bool (Br.letB c)) ∧ W = w' := by
  by_cases a : 65 ≤ c
  · by_cases b : c ≤ 90
    · rw [bLet_yes (.inl ⟨a, b⟩)]
      go_enter Tryz.func137, Tryz.ntmps137
      go_wp2
      go_ret
      exact ⟨rfl, rfl⟩
    · by_cases d : 97 ≤ c
      · by_cases f : c ≤ 122
        · rw [bLet_yes (.inr ⟨d, f⟩)]
          go_enter Tryz.func137, Tryz.ntmps137
          go_wp2
          go_ret
          exact ⟨rfl, rfl⟩
        · rw [bLet_no (by omega)]
          go_enter Tryz.func137, Tryz.ntmps137
          go_wp2
          go_ret
          exact ⟨rfl, rfl⟩
      · rw [bLet_no (by omega)]
        go_enter Tryz.func137, Tryz.ntmps137
        go_wp2
        go_ret
        exact ⟨rfl, rfl⟩
  · have d : ¬ 97 ≤ c := by omega
    rw [bLet_no (by omega)]
    go_enter Tryz.func137, Tryz.ntmps137
    go_wp2
    go_ret
    exact ⟨rfl, rfl⟩
theorem bSign_yes {c : Int} (h1 : 33 ≤ c) (h2 : c ≤ 126) (h3 : Br.letB c = false) (h4 : ¬ (48 ≤ c ∧ c ≤ 57)) : Br.signB c = true := by
  unfold Br.signB
  rw [h3]
  simp [h1, h2]
  omega
theorem bSign_no {c : Int} (h : ¬ (33 ≤ c ∧ c ≤ 126) ∨ Br.letB c = true ∨ (48 ≤ c ∧ c ≤ 57)) : Br.signB c = false := by
  cases hb : Br.signB c with
  | false => rfl
  | true =>
    unfold Br.signB at hb
    simp at hb
    rcases h with h | h | h
    · omega
    · rw [hb.1.2] at h; cases h
    · omega
set_option maxRecDepth 100000 in
set_option maxHeartbeats 1000000 in
theorem bSign_any (W : World) (c : Int) (h0 : 0 ≤ c) (h1 : c ≤ 255) : Calls Tryz.prog 106 #[.int .u8 c] W fun e w' => e = .returned (.bool (Br.signB c)) ∧ W = w' := by
  by_cases a : 33 ≤ c
  · by_cases b : c ≤ 126
    · have HL := Lib.hid (bLetter_any W c h0 h1)
      cases hl : Br.letB c with
      | true =>
        have HS := Lib.hid (bSign_no (.inr (.inl hl)))
        rw [hl] at HL
        clear hl
        go_enter Tryz.func106, Tryz.ntmps106
        go_wp2_with (go_at_call 137; refine HL.out.mono ?_; rintro e w' ⟨rfl, rfl⟩)
        go_ret
        exact ⟨by rw [HS.out]; rfl, rfl⟩
      | false =>
        rw [hl] at HL
        by_cases d : c < 48
        · have HS := Lib.hid (bSign_yes a b hl (by omega))
          clear hl
          go_enter Tryz.func106, Tryz.ntmps106
          go_wp2_with (go_at_call 137; refine HL.out.mono ?_; rintro e w' ⟨rfl, rfl⟩)
          go_ret
          exact ⟨by rw [HS.out]; rfl, rfl⟩
        · by_cases f : 57 < c
          · have HS := Lib.hid (bSign_yes a b hl (by omega))
            clear hl
            go_enter Tryz.func106, Tryz.ntmps106
            go_wp2_with (go_at_call 137; refine HL.out.mono ?_; rintro e w' ⟨rfl, rfl⟩)
            go_ret
            exact ⟨by rw [HS.out]; rfl, rfl⟩
          · have HS := Lib.hid (bSign_no (c := c) (.inr (.inr (by omega))))
            have h8 : (decide (c < 48) || decide (57 < c)) = false := by simp; omega
            have H8 := Lib.hid h8
            clear hl h8
            go_enter Tryz.func106, Tryz.ntmps106
            go_wp2_with (go_at_call 137; refine HL.out.mono ?_; rintro e w' ⟨rfl, rfl⟩)
            go_ret
            exact ⟨by rw [HS.out]; exact congrArg (fun b => Ending.returned (.bool b)) H8.out, rfl⟩
    · have HS := Lib.hid (bSign_no (c := c) (.inl (by omega)))
      go_enter Tryz.func106, Tryz.ntmps106
      go_wp2
      go_ret
      exact ⟨by rw [HS.out]; rfl, rfl⟩
  · have HS := Lib.hid (bSign_no (c := c) (.inl (by omega)))
    go_enter Tryz.func106, Tryz.ntmps106
    go_wp2
    go_ret
    exact ⟨by rw [HS.out]; rfl, rfl⟩
theorem toList_pre (s : ByteArray) (k : Nat) : (s.extract 0 k).toList = s.data.toList.take k := by
  rw [ByteArray.toList_eq, ByteArray.data_extract, Array.toList_extract, List.extract_eq_take_drop]; simp
theorem nums_some (s : ByteArray) (k : Nat) : (Utf.nums s)[k]? = (s.data.toList[k]?).map (fun b => (b.toNat : Int)) := by unfold Utf.nums; rw [List.getElem?_map]
theorem byte_inj {a b : UInt8} (h : (a.toNat : Int) = (b.toNat : Int)) : a = b := UInt8.toNat_inj.1 (by omega)
theorem pre1 (s : ByteArray) (c : UInt8) (hc : c ≠ 0) : ((s.extract 0 1).toList == [c]) = decide ((Utf.nums s)[0]?.getD 0 = (c.toNat : Int)) := by
  have hc9 : (c.toNat : Int) ≠ 0 := fun e => hc (byte_inj (b := 0) (by rw [e]; rfl))
  rw [toList_pre, nums_some]
  cases h : s.data.toList with
  | nil => simp; omega
  | cons a t =>
    rw [Bool.eq_iff_iff]
    simp
    exact ⟨fun e => by rw [e], fun e => UInt8.toNat_inj.1 (by omega)⟩
theorem pre2 (s : ByteArray) (c d : UInt8) : ((s.extract 0 2).toList == [c, d]) = decide ((Utf.nums s)[0]? = some (c.toNat : Int) ∧ (Utf.nums s)[1]? = some (d.toNat : Int)) := by
  rw [toList_pre, nums_some, nums_some]
  cases h : s.data.toList with
  | nil => simp
  | cons a t =>
    cases t with
    | nil => simp
    | cons b u =>
      rw [Bool.eq_iff_iff]
      simp
      exact ⟨fun e => by rw [e.1, e.2]; exact ⟨rfl, rfl⟩, fun e => ⟨UInt8.toNat_inj.1 (by omega), UInt8.toNat_inj.1 (by omega)⟩⟩
set_option maxRecDepth 100000 in
set_option maxHeartbeats 1000000 in
theorem hasPre1 (W : World) (s : ByteArray) (c : UInt8) (hc : c ≠ 0) : Calls Tryz.prog 16 #[.string s, .string ⟨#[c]⟩] W fun e w' => e = .returned (.bool (decide ((Utf.nums s)[0]?.getD 0 = (c.toNat : Int)))) ∧ W = w' := by
  have hc9 : (c.toNat : Int) ≠ 0 := fun e => hc (byte_inj (b := 0) (by rw [e]; rfl))
  by_cases h : (s.size : Int) < 1
  · have HE : Hid (decide ((Utf.nums s)[0]?.getD 0 = (c.toNat : Int)) = false) := Lib.hid (decide_eq_false (by
      rw [List.getElem?_eq_none (by rw [Utf.nums_length]; omega)]; simp; omega))
    go_enter Tryz.func16, Tryz.ntmps16
    go_wp2
    go_ret
    exact ⟨by rw [HE.out]; rfl, rfl⟩
  · have HE := Lib.hid (pre1 s c hc)
    go_enter Tryz.func16, Tryz.ntmps16
    go_wp2
    go_ret
    exact ⟨by rw [← HE.out]; rfl, rfl⟩
set_option maxRecDepth 100000 in
set_option maxHeartbeats 1000000 in
theorem hasPre2 (W : World) (s : ByteArray) (c d : UInt8) : Calls Tryz.prog 16 #[.string s, .string ⟨#[c, d]⟩] W fun e w' => e = .returned (.bool (decide ((Utf.nums s)[0]? = some (c.toNat : Int) ∧ (Utf.nums s)[1]? = some (d.toNat : Int)))) ∧ W = w' := by
  obtain ⟨q, hq⟩ : ∃ q, decide ((Utf.nums s)[0]? = some (c.toNat : Int) ∧ (Utf.nums s)[1]? = some (d.toNat : Int)) = q := ⟨_, rfl⟩
  rw [hq]
  by_cases h : (s.size : Int) < 2
  · have HE : Hid (q = false) := Lib.hid (hq.symm.trans <| decide_eq_false (by
      rintro ⟨_, e⟩
      rw [List.getElem?_eq_none (by rw [Utf.nums_length]; omega)] at e; cases e))
    clear hq
    go_enter Tryz.func16, Tryz.ntmps16
    go_wp2
    go_ret
    exact ⟨by rw [HE.out]; rfl, rfl⟩
  · have HE := Lib.hid ((pre2 s c d).trans hq)
    clear hq
    go_enter Tryz.func16, Tryz.ntmps16
    go_wp2
    go_ret
    exact ⟨by rw [← HE.out]; rfl, rfl⟩
set_option maxRecDepth 100000 in
set_option maxHeartbeats 4000000 in
theorem bPlain_any (W : World) (c : Int) (h0 : 0 ≤ c) (h1 : c ≤ 255) : Calls Tryz.prog 79 #[.int .u8 c] W fun e w' => e = .returned (.tuple #[.int .i64 (Br.plain c).1, .int .i64 (Br.plain c).2.1, .int .i64 (Br.plain c).2.2]) ∧ W = w' := by
  by_cases e97 : c = 97
  · subst e97
    go_enter Tryz.func79, Tryz.ntmps79
    go_wp2
    go_ret3
    exact ⟨rfl, rfl⟩
  by_cases e116 : c = 116
  · subst e116
    go_enter Tryz.func79, Tryz.ntmps79
    go_wp2
    go_ret3
    exact ⟨rfl, rfl⟩
  by_cases e110 : c = 110
  · subst e110
    go_enter Tryz.func79, Tryz.ntmps79
    go_wp2
    go_ret3
    exact ⟨rfl, rfl⟩
  by_cases e118 : c = 118
  · subst e118
    go_enter Tryz.func79, Tryz.ntmps79
    go_wp2
    go_ret3
    exact ⟨rfl, rfl⟩
  by_cases e102 : c = 102
  · subst e102
    go_enter Tryz.func79, Tryz.ntmps79
    go_wp2
    go_ret3
    exact ⟨rfl, rfl⟩
  by_cases e114 : c = 114
  · subst e114
    go_enter Tryz.func79, Tryz.ntmps79
    go_wp2
    go_ret3
    exact ⟨rfl, rfl⟩
  have HS := Lib.hid (bSign_any W c h0 h1)
  have hp : Br.plain c = if Br.signB c = true then (c, 2, 0) else (0, 0, 80) := by
    unfold Br.plain
    rw [if_neg e97, if_neg e116, if_neg e110, if_neg e118, if_neg e102, if_neg e114]
  cases hs : Br.signB c with
  | true =>
    rw [hs, if_pos rfl] at hp
    rw [hs] at HS
    rw [hp]
    clear hp hs
    go_enter Tryz.func79, Tryz.ntmps79
    go_wp2_with (go_at_call 106; refine HS.out.mono ?_; rintro e w' ⟨rfl, rfl⟩)
    go_ret3
    exact ⟨rfl, rfl⟩
  | false =>
    rw [hs, if_neg (by decide)] at hp
    rw [hs] at HS
    rw [hp]
    clear hp hs
    go_enter Tryz.func79, Tryz.ntmps79
    go_wp2_with (go_at_call 106; refine HS.out.mono ?_; rintro e w' ⟨rfl, rfl⟩)
    go_ret3
    exact ⟨rfl, rfl⟩
end Go.Proofs.YtanffablfgnioaaGreatDoor
namespace Go.Proofs.YtanffablfgnioaaGreatDoor
open Go.RowKit
set_option linter.unusedVariables false
set_option maxRecDepth 100000 in
set_option maxHeartbeats 4000000 in
theorem bDigits_any (W : World) (s : ByteArray) (most : Nat) (hs : s.size ≤ 140737488351232) (hm : most ≤ 6) : Calls Tryz.prog 81 #[.string s, .int .i64 (most : Int)] W fun e w' =>
    e = .returned (.tuple #[.int .i64 (Br.val (Utf.nums s) (Br.cnt (Utf.nums s) most)), .int .i64 (Br.cnt (Utf.nums s) most : Int)]) ∧ W = w' := by
  obtain ⟨l, hl⟩ : ∃ l, Utf.nums s = l := ⟨_, rfl⟩
  have hln : l.length = s.size := by rw [← hl, Utf.nums_length]
  have hc := Br.cnt_le l most
  have HL := Lib.hid hl
  have HLN := Lib.hid hln
  have HC := Lib.hid hc
  rw [hl]
  clear hl hln hc
  by_cases h9 : most < s.size
  · have hmn : most < s.size := h9
    go_enter Tryz.func81, Tryz.ntmps81
    go_wp2
    go_loop [4, 5] (fun R N => ∃ k : Nat, k ≤ Br.cnt l most ∧ N = .int .i64 (k : Int) ∧ R = .int .i64 (Br.val l k)) (fun _ N => most - (intOf N).toNat)
    case atStart => exact ⟨0, Nat.zero_le _, rfl, rfl⟩
    case round =>
      obtain ⟨k, hk, rfl, rfl⟩ := hrel
      have hcm := HC.out.1
      have hcl := HC.out.2
      rw [HLN.out] at hcl
      by_cases hin : k < s.size ∧ k < most
      · obtain ⟨hin1, hin2⟩ := hin
        have hb : s[k].toNat < 256 := UInt8.toNat_lt _
        have hat : l[k]?.getD 0 = (s[k].toNat : Int) := by rw [← HL.out]; exact Utf.nums_at s k hin1
        have HAT := Lib.hid hat
        have h1 : (k : Int) < (s.size : Int) := by omega
        have h2 : (k : Int) < (most : Int) := by omega
        have hbd := Br.val_bd l most k hk
        have hp : (16 : Int) ^ k ≤ 16 ^ 6 := by
          have : (16 : Nat) ^ k ≤ 16 ^ 6 := Nat.pow_le_pow_right (by decide) (by omega)
          exact_mod_cast this
        have hv0 : 0 ≤ Br.val l k := hbd.1
        have hv1 : Br.val l k < 16777216 := by have := hbd.2; omega
        have hdb := Br.dig_bd (s[k].toNat : Int)
        have HVS := Lib.hid (Br.val_succ l k (by rw [HLN.out]; exact hin1))
        obtain ⟨D, hD⟩ : ∃ D, Br.dig (s[k].toNat : Int) = D := ⟨_, rfl⟩
        have HD := Lib.hid hD
        have HBD := Lib.hid (bDigit_any W (s[k].toNat : Int) (by omega) (by omega))
        rw [hD] at HBD hdb
        obtain ⟨V, hV⟩ : ∃ V, Br.val l k = V := ⟨_, rfl⟩
        have HV := Lib.hid hV
        rw [hV] at hv0 hv1 ⊢
        clear hat hbd hp hD hV hb
        by_cases hd : D < 0
        · have HE : Hid (Br.cnt l most = k) := Lib.hid (Br.cnt_ends l most k (by omega) (by rw [HLN.out]; omega) (fun j hj => Br.cnt_yes l most j (by omega)) (.inr (.inr (by rw [HAT.out, HD.out]; exact hd))))
          go_wp2_with (go_at_call 107; refine HBD.out.mono ?_; rintro e w' ⟨rfl, rfl⟩)
          go_ret2
          exact ⟨by rw [HE.out, HV.out]; rfl, rfl⟩
        · have hd0 : 0 ≤ D := by omega
          have hlt : k < Br.cnt l most := by
            rcases Nat.lt_or_ge k (Br.cnt l most) with h | h
            · exact h
            · obtain rfl : k = Br.cnt l most := by omega
              have := Br.cnt_no l most (by omega) (by rw [HLN.out]; omega)
              rw [HAT.out, HD.out] at this
              exact absurd this hd
          have hw1 : IntKind.i64.wrap (V * 16) = V * 16 := by rw [IntKind.wrap_i64]; omega
          have hw2 : IntKind.i64.wrap (V * 16 + D) = V * 16 + D := by rw [IntKind.wrap_i64]; omega
          have hw3 : IntKind.i64.wrap ((k : Int) + 1) = ((k + 1 : Nat) : Int) := by rw [IntKind.wrap_i64]; omega
          have HLT := Lib.hid hlt
          clear hlt hcm hcl hdb hk
          go_wp2_with (go_at_call 107; refine HBD.out.mono ?_; rintro e w' ⟨rfl, rfl⟩)
          go_round
          case rel => exact ⟨k + 1, HLT.out, by go_num, by rw [HVS.out, HAT.out, HD.out, HV.out]⟩
          case measure => simp [intOf]; omega
      · have HE : Hid (Br.cnt l most = k) := Lib.hid (Br.cnt_ends l most k (by omega) (by rw [HLN.out]; omega) (fun j hj => Br.cnt_yes l most j (by omega)) (by rw [HLN.out]; omega))
        have hno : ¬ ((k : Int) < (s.size : Int) ∧ (k : Int) < (most : Int)) := by omega
        go_wp2
        go_ret2
        exact ⟨by rw [HE.out]; rfl, rfl⟩
  · have hmn : ¬ most < s.size := h9
    go_enter Tryz.func81, Tryz.ntmps81
    go_wp2
    go_loop [4, 5] (fun R N => ∃ k : Nat, k ≤ Br.cnt l most ∧ N = .int .i64 (k : Int) ∧ R = .int .i64 (Br.val l k)) (fun _ N => most - (intOf N).toNat)
    case atStart => exact ⟨0, Nat.zero_le _, rfl, rfl⟩
    case round =>
      obtain ⟨k, hk, rfl, rfl⟩ := hrel
      have hcm := HC.out.1
      have hcl := HC.out.2
      rw [HLN.out] at hcl
      by_cases hin : k < s.size ∧ k < most
      · obtain ⟨hin1, hin2⟩ := hin
        have hb : s[k].toNat < 256 := UInt8.toNat_lt _
        have hat : l[k]?.getD 0 = (s[k].toNat : Int) := by rw [← HL.out]; exact Utf.nums_at s k hin1
        have HAT := Lib.hid hat
        have h1 : (k : Int) < (s.size : Int) := by omega
        have h2 : (k : Int) < (most : Int) := by omega
        have hbd := Br.val_bd l most k hk
        have hp : (16 : Int) ^ k ≤ 16 ^ 6 := by
          have : (16 : Nat) ^ k ≤ 16 ^ 6 := Nat.pow_le_pow_right (by decide) (by omega)
          exact_mod_cast this
        have hv0 : 0 ≤ Br.val l k := hbd.1
        have hv1 : Br.val l k < 16777216 := by have := hbd.2; omega
        have hdb := Br.dig_bd (s[k].toNat : Int)
        have HVS := Lib.hid (Br.val_succ l k (by rw [HLN.out]; exact hin1))
        obtain ⟨D, hD⟩ : ∃ D, Br.dig (s[k].toNat : Int) = D := ⟨_, rfl⟩
        have HD := Lib.hid hD
        have HBD := Lib.hid (bDigit_any W (s[k].toNat : Int) (by omega) (by omega))
        rw [hD] at HBD hdb
        obtain ⟨V, hV⟩ : ∃ V, Br.val l k = V := ⟨_, rfl⟩
        have HV := Lib.hid hV
        rw [hV] at hv0 hv1 ⊢
        clear hat hbd hp hD hV hb
        by_cases hd : D < 0
        · have HE : Hid (Br.cnt l most = k) := Lib.hid (Br.cnt_ends l most k (by omega) (by rw [HLN.out]; omega) (fun j hj => Br.cnt_yes l most j (by omega)) (.inr (.inr (by rw [HAT.out, HD.out]; exact hd))))
          go_wp2_with (go_at_call 107; refine HBD.out.mono ?_; rintro e w' ⟨rfl, rfl⟩)
          go_ret2
          exact ⟨by rw [HE.out, HV.out]; rfl, rfl⟩
        · have hd0 : 0 ≤ D := by omega
          have hlt : k < Br.cnt l most := by
            rcases Nat.lt_or_ge k (Br.cnt l most) with h | h
            · exact h
            · obtain rfl : k = Br.cnt l most := by omega
              have := Br.cnt_no l most (by omega) (by rw [HLN.out]; omega)
              rw [HAT.out, HD.out] at this
              exact absurd this hd
          have hw1 : IntKind.i64.wrap (V * 16) = V * 16 := by rw [IntKind.wrap_i64]; omega
          have hw2 : IntKind.i64.wrap (V * 16 + D) = V * 16 + D := by rw [IntKind.wrap_i64]; omega
          have hw3 : IntKind.i64.wrap ((k : Int) + 1) = ((k + 1 : Nat) : Int) := by rw [IntKind.wrap_i64]; omega
          have HLT := Lib.hid hlt
          clear hlt hcm hcl hdb hk
          go_wp2_with (go_at_call 107; refine HBD.out.mono ?_; rintro e w' ⟨rfl, rfl⟩)
          go_round
          case rel => exact ⟨k + 1, HLT.out, by go_num, by rw [HVS.out, HAT.out, HD.out, HV.out]⟩
          case measure => simp [intOf]; omega
      · have HE : Hid (Br.cnt l most = k) := Lib.hid (Br.cnt_ends l most k (by omega) (by rw [HLN.out]; omega) (fun j hj => Br.cnt_yes l most j (by omega)) (by rw [HLN.out]; omega))
        have hno : ¬ ((k : Int) < (s.size : Int) ∧ (k : Int) < (most : Int)) := by omega
        go_wp2
        go_ret2
        exact ⟨by rw [HE.out]; rfl, rfl⟩
end Go.Proofs.YtanffablfgnioaaGreatDoor
namespace Go.Proofs.YtanffablfgnioaaGreatDoor
open Go.RowKit
set_option linter.unusedVariables false
theorem tail_drop (s : ByteArray) (k : Nat) : Utf.nums (s.extract k s.size) = (Utf.nums s).drop k := by
  rw [Utf.nums_extract, List.take_of_length_le]
  rw [List.length_drop, Utf.nums_length]; omega
set_option maxRecDepth 100000 in
set_option maxHeartbeats 4000000 in
theorem bBraced_any (W : World) (s : ByteArray) (hs : s.size ≤ 140737488351232) (h3 : 3 ≤ s.size) : Calls Tryz.prog 80 #[.string s] W fun e w' =>
    e = .returned (.tuple #[.int .i64 (Br.braced (Utf.nums s)).1, .int .i64 (Br.braced (Utf.nums s)).2.1, .int .i64 (Br.braced (Utf.nums s)).2.2]) ∧ W = w' := by
  have hD := bDigits_any W (s.extract 3 s.size) 6 (by rw [ByteArray.size_extract]; omega) (by omega)
  rw [tail_drop] at hD
  have hc := Br.cnt_le ((Utf.nums s).drop 3) 6
  rw [List.length_drop, Utf.nums_length] at hc
  have hv := Br.val_bd ((Utf.nums s).drop 3) 6 _ (Nat.le_refl _)
  have hbr : Br.braced (Utf.nums s) = (if 3 + Br.cnt ((Utf.nums s).drop 3) 6 = s.size then (0, 0, 82) else if (Utf.nums s)[3 + Br.cnt ((Utf.nums s).drop 3) 6]?.getD 0 ≠ 125 ∨ Br.cnt ((Utf.nums s).drop 3) 6 = 0 ∨ 1114111 < Br.val ((Utf.nums s).drop 3) (Br.cnt ((Utf.nums s).drop 3) 6) then (0, 0, 80) else (Br.val ((Utf.nums s).drop 3) (Br.cnt ((Utf.nums s).drop 3) 6), (Br.cnt ((Utf.nums s).drop 3) 6 : Int) + 4, 0)) := by
    unfold Br.braced
    dsimp only
    rw [Utf.nums_length]
  obtain ⟨V, hV⟩ : ∃ V, Br.val ((Utf.nums s).drop 3) (Br.cnt ((Utf.nums s).drop 3) 6) = V := ⟨_, rfl⟩
  rw [hV] at hD hv hbr
  obtain ⟨K, hK⟩ : ∃ K, Br.cnt ((Utf.nums s).drop 3) 6 = K := ⟨_, rfl⟩
  rw [hK] at hD hc hbr
  have hv0 : 0 ≤ V := hv.1
  obtain ⟨e, he⟩ : ∃ e, 3 + K = e := ⟨_, rfl⟩
  rw [he] at hbr
  have hw : IntKind.i64.wrap (3 + (K : Int)) = (e : Int) := by rw [IntKind.wrap_i64]; omega
  have hw2 : IntKind.i64.wrap ((e : Int) + 1) = (K : Int) + 4 := by rw [IntKind.wrap_i64]; omega
  have h3i : (3 : Int) ≤ (s.size : Int) := by omega
  have HD := Lib.hid hD
  obtain ⟨R, hR⟩ : ∃ R, Br.braced (Utf.nums s) = R := ⟨_, rfl⟩
  rw [hR] at hbr ⊢
  have HBR := Lib.hid hbr
  clear hD hv hbr hR hV hK
  by_cases c1 : e = s.size
  · have HE : Hid (R = (0, 0, 82)) := Lib.hid (by rw [HBR.out, if_pos c1])
    have h1 : ((e : Int) == (s.size : Int)) = true := by simp [c1]
    clear he
    go_enter Tryz.func80, Tryz.ntmps80
    go_wp2_with (go_at_call 81; refine HD.out.mono ?_; rintro e w' ⟨rfl, rfl⟩)
    go_ret3
    exact ⟨by rw [HE.out]; rfl, rfl⟩
  have h1 : ((e : Int) == (s.size : Int)) = false := by simp; omega
  have hlt : e < s.size := by omega
  have hli : (e : Int) < (s.size : Int) := by omega
  have hb : s[e].toNat < 256 := UInt8.toNat_lt _
  have hat : (Utf.nums s)[e]?.getD 0 = (s[e].toNat : Int) := Utf.nums_at s e hlt
  have HAT := Lib.hid hat
  clear he hat
  by_cases c2 : (s[e].toNat : Int) = 125
  · by_cases c3 : K = 0
    · have HE : Hid (R = (0, 0, 80)) := Lib.hid (by rw [HBR.out, if_neg c1, if_pos (.inr (.inl c3))])
      have h4 : ((s[e].toNat : Int) != 125) = false := by simp [c2]
      have h5 : ((K : Int) == 0) = true := by simp [c3]
      clear c2 c3
      go_enter Tryz.func80, Tryz.ntmps80
      go_wp2_with (go_at_call 81; refine HD.out.mono ?_; rintro e w' ⟨rfl, rfl⟩)
      go_ret3
      exact ⟨by rw [HE.out]; rfl, rfl⟩
    · have h4 : ((s[e].toNat : Int) != 125) = false := by simp [c2]
      have h5 : ((K : Int) == 0) = false := by simp; omega
      by_cases c4 : 1114111 < V
      · have HE : Hid (R = (0, 0, 80)) := Lib.hid (by rw [HBR.out, if_neg c1, if_pos (.inr (.inr c4))])
        clear c2 c3
        go_enter Tryz.func80, Tryz.ntmps80
        go_wp2_with (go_at_call 81; refine HD.out.mono ?_; rintro e w' ⟨rfl, rfl⟩)
        go_ret3
        exact ⟨by rw [HE.out]; rfl, rfl⟩
      · have HE : Hid (R = (V, (K : Int) + 4, 0)) := Lib.hid (by rw [HBR.out, if_neg c1, if_neg (by rw [HAT.out]; omega)])
        clear c2 c3
        go_enter Tryz.func80, Tryz.ntmps80
        go_wp2_with (go_at_call 81; refine HD.out.mono ?_; rintro e w' ⟨rfl, rfl⟩)
        go_ret3
        exact ⟨by rw [HE.out]; rfl, rfl⟩
  · have HE : Hid (R = (0, 0, 80)) := Lib.hid (by rw [HBR.out, if_neg c1, if_pos (.inl (by rw [HAT.out]; exact c2))])
    have h4 : ((s[e].toNat : Int) != 125) = true := by simpa using c2
    clear c2
    go_enter Tryz.func80, Tryz.ntmps80
    go_wp2_with (go_at_call 81; refine HD.out.mono ?_; rintro e w' ⟨rfl, rfl⟩)
    go_ret3
    exact ⟨by rw [HE.out]; rfl, rfl⟩
end Go.Proofs.YtanffablfgnioaaGreatDoor
