/- strings.Cut at a closing brace and at :]; what a call needs of the library's variables. · Strings as numbers, bits, and small laws that every text on utf or its reference uses; the reference's Width. -/
import Derived.Test.YtmdpchiiamgnnaaGreatDoorGp3
import Derived.Test.YtmdpchiiamgnnaaGreatDoorGp13
import Derived.Shelf.Vars
import Derived.Lib.IndexLaws
import Derived.Lib.Index
import Derived.Test.YtmdpchiiamgnnaaGreatDoorRows
import Derived.Test.YtmdpchiiamgnnaaGreatDoorGp1
import Derived.WalkKit
import Derived.OwnWalk
import Derived.WalkLawsBesides
import Derived.WalkSpells
import Derived.Lib.Hide
import Derived.Deep.QuietTactic
import Derived.BigQuiet
import Derived.Laws.BitsLemmas
import Derived.Laws.Bits128
import Derived.Laws.Rows
import Derived.Laws.BytesArg
import Derived.Laws.IdiomStrings
namespace Go.Proofs.YtmdpchiiamgnnaaGreatDoor
open Go.RowKit Go.Shelf
set_option linter.unusedVariables false
/-- The table of spaces, and some number in the library's variable MaxLen. -/
structure Ev (W : World) : Prop where
  spaces : Spaces W
  lt : 0 < W.heap.size
  max : ∃ m, W.cell? ⟨0, 0, none⟩ = some (.int .i64 m)
theorem Ev.below {W W' : World} {B : Nat} (h : Ev W) (hB : W.heap.size ≤ B) (hb : Below B W W') : Ev W' :=
  ⟨h.spaces.below hB hb, by have := hb.size; have := h.lt; omega, by
    obtain ⟨m, hm⟩ := h.max
    exact ⟨m, (hb.cell (p := ⟨0, 0, none⟩) (Nat.lt_of_lt_of_le h.lt hB)).trans hm⟩⟩
theorem Ev.drewN {W : World} (h : Ev W) (n : Nat) : Ev (W.drewN n) := h.below (Nat.le_refl _) (below_drewN (Below.refl _ _) n)
namespace Br
theorem nums_q (s : ByteArray) (k : Nat) (c : UInt8) : s.data.toList[k]? = some c ↔ (Utf.nums s)[k]? = some (c.toNat : Int) := by
  unfold Utf.nums
  rw [List.getElem?_map]
  cases s.data.toList[k]? with
  | none => simp
  | some b => simp only [Option.map_some, Option.some.injEq]; exact ⟨fun e => by rw [e], fun e => UInt8.toNat_inj.1 (by omega)⟩
theorem occ1 (s : List UInt8) (c : UInt8) (i : Nat) : Lib.occAt s [c] i = decide (s[i]? = some c) := by
  unfold Lib.occAt
  rw [Bool.eq_iff_iff, decide_eq_true_iff, List.isPrefixOf_iff_prefix]
  have h0 : s[i]? = (s.drop i)[0]? := by rw [List.getElem?_drop]; rfl
  rw [h0]
  cases s.drop i with
  | nil => simp
  | cons a t => simp; exact ⟨fun e => e.symm, fun e => e.symm⟩
theorem occ2 (s : List UInt8) (c d : UInt8) (i : Nat) : Lib.occAt s [c, d] i = decide (s[i]? = some c ∧ s[i + 1]? = some d) := by
  unfold Lib.occAt
  rw [Bool.eq_iff_iff, decide_eq_true_iff, List.isPrefixOf_iff_prefix]
  have h0 : s[i]? = (s.drop i)[0]? := by rw [List.getElem?_drop]; rfl
  have h1 : s[i + 1]? = (s.drop i)[1]? := by rw [List.getElem?_drop]
  rw [h0, h1]
  cases s.drop i with
  | nil => simp
  | cons a t =>
    cases t with
    | nil => simp
    | cons b u => simp; exact ⟨fun e => ⟨e.1.symm, e.2.symm⟩, fun e => ⟨e.1.symm, e.2.symm⟩⟩
theorem take_extract (s : ByteArray) (k : Nat) : (⟨(s.data.toList.take k).toArray⟩ : ByteArray) = s.extract 0 k := by
  apply ByteArray.ext
  rw [ByteArray.data_extract]
  apply Array.toList_inj.1
  rw [Array.toList_extract, List.extract_eq_take_drop]; simp
theorem cut_of1 (s : ByteArray) (c : UInt8) : (upTo (c.toNat : Int) (Utf.nums s) = s.size → Lib.cut s.data.toList [c] = (s.data.toList, [], false)) ∧ (upTo (c.toNat : Int) (Utf.nums s) ≠ s.size → ∃ b, Lib.cut s.data.toList [c] = (s.data.toList.take (upTo (c.toNat : Int) (Utf.nums s)), b, true)) := by
  have hl : s.data.toList.length = s.size := by simp
  have hle := upTo_le (c.toNat : Int) (Utf.nums s)
  rw [Utf.nums_length] at hle
  constructor
  · intro h
    have : Lib.index s.data.toList [c] = -1 := Lib.index_none (fun j _ => by
      rw [occ1, decide_eq_false]
      intro e
      have e2 := (nums_q s j c).1 e
      have hj : j < s.size := by rw [← Utf.nums_length]; exact (List.getElem?_eq_some_iff.1 e2).1
      exact upTo_no _ _ j (by omega) e2)
    unfold Lib.cut
    rw [this, if_neg (by decide)]
  · intro h
    have h3 := upTo_at (c.toNat : Int) (Utf.nums s) (by rw [Utf.nums_length]; omega)
    have : Lib.index s.data.toList [c] = (upTo (c.toNat : Int) (Utf.nums s) : Nat) := Lib.index_first (by omega) (by rw [occ1, decide_eq_true_iff]; exact (nums_q s _ c).2 h3) (fun j hj => by
      rw [occ1, decide_eq_false]
      intro e
      exact upTo_no _ _ j hj ((nums_q s j c).1 e))
    unfold Lib.cut
    rw [this, if_pos (by omega), Int.toNat_natCast]
    exact ⟨_, rfl⟩
theorem cut_of2 (s : ByteArray) (c d : UInt8) : (upTo2 (c.toNat : Int) (d.toNat : Int) (Utf.nums s) = s.size → Lib.cut s.data.toList [c, d] = (s.data.toList, [], false)) ∧ (upTo2 (c.toNat : Int) (d.toNat : Int) (Utf.nums s) ≠ s.size → ∃ b, Lib.cut s.data.toList [c, d] = (s.data.toList.take (upTo2 (c.toNat : Int) (d.toNat : Int) (Utf.nums s)), b, true)) := by
  have hl : s.data.toList.length = s.size := by simp
  have hle := upTo2_le (c.toNat : Int) (d.toNat : Int) (Utf.nums s)
  rw [Utf.nums_length] at hle
  constructor
  · intro h
    have : Lib.index s.data.toList [c, d] = -1 := Lib.index_none (fun j _ => by
      rw [occ2, decide_eq_false]
      rintro ⟨e, f⟩
      have e2 := (nums_q s j c).1 e
      have hj : j < s.size := by rw [← Utf.nums_length]; exact (List.getElem?_eq_some_iff.1 e2).1
      exact upTo2_no _ _ _ j (by omega) ⟨e2, (nums_q s (j + 1) d).1 f⟩)
    unfold Lib.cut
    rw [this, if_neg (by decide)]
  · intro h
    have h3 := upTo2_at (c.toNat : Int) (d.toNat : Int) (Utf.nums s) (by rw [Utf.nums_length]; omega)
    have : Lib.index s.data.toList [c, d] = (upTo2 (c.toNat : Int) (d.toNat : Int) (Utf.nums s) : Nat) := Lib.index_first (by omega) (by rw [occ2, decide_eq_true_iff]; exact ⟨(nums_q s _ c).2 h3.1, (nums_q s _ d).2 h3.2⟩) (fun j hj => by
      rw [occ2, decide_eq_false]
      rintro ⟨e, f⟩
      exact upTo2_no _ _ _ j hj ⟨(nums_q s j c).1 e, (nums_q s (j + 1) d).1 f⟩)
    unfold Lib.cut
    rw [this, if_pos (by omega), Int.toNat_natCast]
    exact ⟨_, rfl⟩
end Br
/-- What Cut hands back: the part ahead, and whether there is one. -/
def CutPost (k : Nat) (s : ByteArray) (W : World) (e : Ending) (w' : World) : Prop := ∃ b, e = .returned (.tuple #[.string (s.extract 0 k), .string b, .bool (decide (k ≠ s.size))]) ∧ ∃ n, w' = W.drewN n
theorem extract_all (s : ByteArray) : s.extract 0 s.size = s := by
  rw [← Br.take_extract]
  apply ByteArray.ext
  rw [List.take_of_length_le (by simp)]
theorem cut_1 (W : World) (s : ByteArray) (hs : s.size ≤ 100000) (c : UInt8) (hE : Ev W) : Calls Tryz.prog 65 #[.string s, .string ⟨#[c]⟩] W (CutPost (Br.upTo (c.toNat : Int) (Utf.nums s)) s W) := by
  obtain ⟨m, hm⟩ := hE.max
  have h9 := Any.strings_Cut (P := Tryz.prog) Tryz.layCut s ⟨#[c]⟩ m W (by omega) hm
  change Calls Tryz.prog 65 _ _ _ at h9
  refine h9.mono ?_
  rintro e w' ⟨he, hw⟩
  have hc := Br.cut_of1 s c
  by_cases h : Br.upTo (c.toNat : Int) (Utf.nums s) = s.size
  · rw [hc.1 h] at he
    refine ⟨⟨([] : List UInt8).toArray⟩, ?_, hw⟩
    rw [he, h, extract_all, decide_eq_false (by simp)]
  · obtain ⟨b, hb⟩ := hc.2 h
    rw [hb] at he
    refine ⟨⟨b.toArray⟩, ?_, hw⟩
    rw [he, decide_eq_true h, ← Br.take_extract]
theorem cut_2 (W : World) (s : ByteArray) (hs : s.size ≤ 100000) (c d : UInt8) (hE : Ev W) : Calls Tryz.prog 65 #[.string s, .string ⟨#[c, d]⟩] W (CutPost (Br.upTo2 (c.toNat : Int) (d.toNat : Int) (Utf.nums s)) s W) := by
  obtain ⟨m, hm⟩ := hE.max
  have h9 := Any.strings_Cut (P := Tryz.prog) Tryz.layCut s ⟨#[c, d]⟩ m W (by omega) hm
  change Calls Tryz.prog 65 _ _ _ at h9
  refine h9.mono ?_
  rintro e w' ⟨he, hw⟩
  have hc := Br.cut_of2 s c d
  by_cases h : Br.upTo2 (c.toNat : Int) (d.toNat : Int) (Utf.nums s) = s.size
  · rw [hc.1 h] at he
    refine ⟨⟨([] : List UInt8).toArray⟩, ?_, hw⟩
    rw [he, h, extract_all, decide_eq_false (by simp)]
  · obtain ⟨b, hb⟩ := hc.2 h
    rw [hb] at he
    refine ⟨⟨b.toArray⟩, ?_, hw⟩
    rw [he, decide_eq_true h, ← Br.take_extract]
end Go.Proofs.YtmdpchiiamgnnaaGreatDoor
namespace Go.Proofs.YtmdpchiiamgnnaaGreatDoor
open Go.RowKit
theorem ret_int {k : IntKind} {a b : Int} (h : a = b) : Ending.returned (.int k a) = .returned (.int k b) := by rw [h]
theorem ret_two {k : IntKind} {a b c d : Int} (h : a = b) (h' : c = d) : Ending.returned (.tuple #[.int k a, .int k c]) = .returned (.tuple #[.int k b, .int k d]) := by rw [h, h']
/-- 'x & 0xC0' says whether x is a later byte of an encoding. -/
theorem and192 (x : Nat) (h : x < 256) : bits .and .u8 (x : Int) 192 = (x : Int) / 64 * 64 := by
  revert h; revert x; decide +kernel
theorem and63 (x : Nat) (h : x < 256) : bits .and .u8 (x : Int) 63 = (x : Int) % 64 := by
  revert h; revert x; decide +kernel
theorem toList_ne {s : ByteArray} (h : 0 < s.size) : s.toList.isEmpty = false ∧ ¬ s.toList = [] := by
  have : s.toList.length = s.size := by rw [ByteArray.toList_eq]; exact Array.length_toList
  refine ⟨?_, fun e => by rw [e] at this; simp at this; omega⟩
  rw [List.isEmpty_eq_false_iff]; intro e; rw [e] at this; simp at this; omega
theorem toList_e {s : ByteArray} (h : s.size = 0) : s.toList.isEmpty = true ∧ s.toList = [] := by
  have : s.toList.length = s.size := by rw [ByteArray.toList_eq]; exact Array.length_toList
  have e : s.toList = [] := List.eq_nil_of_length_eq_zero (by omega)
  exact ⟨by rw [e]; rfl, e⟩
theorem i64_and63 (n : Int) : bits .and .i64 n 63 = n % 64 := by
  have h63 : (BitVec.ofInt 64 63).toNat = 2 ^ 6 - 1 := by decide
  have key : (BitVec.ofInt 64 n &&& BitVec.ofInt 64 63).toNat = (n % ((2 ^ 64 : Nat) : Int)).toNat % 2 ^ 6 := by
    rw [BitVec.toNat_and, BitVec.toNat_ofInt, h63, Nat.and_two_pow_sub_one_eq_mod]
  show IntKind.i64.wrap ((BitVec.ofInt 64 n &&& BitVec.ofInt 64 63).toNat : Nat) = n % 64
  rw [key, IntKind.wrap_i64]
  omega
theorem below_drewS (w : World) (n B : Nat) : Below B w (w.drewN n) := ⟨rfl, rfl, rfl, Nat.le_refl _, fun _ _ => rfl⟩
theorem nums_append (s t : ByteArray) : Utf.nums (s ++ t) = Utf.nums s ++ Utf.nums t := by
  unfold Utf.nums; rw [ByteArray.data_append, Array.toList_append, List.map_append]
theorem nums_strOf (xs : List Int) (h : Utf.Bytes xs) : Utf.nums (strOfNums xs) = xs := by
  unfold Utf.nums strOfNums
  simp only [List.map_map]
  conv => rhs; rw [← List.map_id xs]
  apply List.map_congr_left
  intro x hx
  have := h x hx
  simp only [Function.comp, UInt8.toNat_ofNat', id]
  omega
theorem size_strOf (xs : List Int) : (strOfNums xs).size = xs.length := by
  unfold strOfNums; show (List.toArray _).size = _; simp
theorem nums_inj {s t : ByteArray} (h : Utf.nums s = Utf.nums t) : s = t := by
  apply ByteArray.ext
  apply Array.toList_inj.1
  unfold Utf.nums at h
  exact List.map_inj_right (fun a b e => UInt8.toNat_inj.1 (by exact_mod_cast e)) |>.1 h
theorem refWidth_any (r : Int) (w : World) : Calls Tryz.prog 156 #[.int .i64 r] w fun e w' => e = .returned (.int .i64 (Utf.width r)) ∧ w = w' := by
  go_enter Tryz.func156, Tryz.ntmps156
  go_wp2
  all_goals
    go_ret
    refine ⟨ret_int ?_, rfl⟩
    unfold Utf.width
    repeat (first | omega | rfl | split)
end Go.Proofs.YtmdpchiiamgnnaaGreatDoor
