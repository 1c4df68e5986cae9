/- Strings as numbers: joining, cutting, and when two strings are equal; small contracts for the laws of layer 1. -/
import Derived.Test.YtjeebamllahgkaaLaw01W
namespace Go.Proofs.Ytjeebamllahgkaa
open Go.RowKit
theorem nums_append (s t : ByteArray) : Utf.nums (s ++ t) = Utf.nums s ++ Utf.nums t := by
  unfold Utf.nums; rw [ByteArray.data_append, Array.toList_append, List.map_append]
theorem nums_strOf (xs : List Int) (h : Utf.Bytes xs) : Utf.nums (strOfNums xs) = xs := by
  unfold Utf.nums strOfNums
  simp only [List.map_map]
  conv => rhs; rw [← List.map_id xs]
  apply List.map_congr_left
  intro x hx
  have := h x hx
  simp only [Function.comp, UInt8.toNat_ofNat', id]
  omega
theorem size_strOf (xs : List Int) : (strOfNums xs).size = xs.length := by
  unfold strOfNums; show (List.toArray _).size = _; simp
theorem nums_inj {s t : ByteArray} (h : Utf.nums s = Utf.nums t) : s = t := by
  apply ByteArray.ext
  apply Array.toList_inj.1
  unfold Utf.nums at h
  exact List.map_inj_right (fun a b e => UInt8.toNat_inj.1 (by exact_mod_cast e)) |>.1 h
theorem dec_at {s : ByteArray} {x n : Int} (h : Utf.dec (Utf.nums s) = (x, n)) (hs : s.size ≤ maxLen) (w : World) :
    Calls Try.prog 11 #[.string s] w fun e w' => e = .returned (.tuple #[.int .i64 x, .int .i64 n]) ∧ ∃ k, w' = w.drewN k := by
  refine (decode_any s hs w).mono fun e w' ⟨h1, h2⟩ => ⟨h1.trans ?_, h2⟩
  rw [h]
theorem enc_at {r : Int} {T : ByteArray} (h : Utf.width r ≠ 0) (hT : strOfNums (Utf.encN r) = T) (w : World) :
    Calls Try.prog 9 #[.int .i64 r] w fun e w' => e = .returned (.tuple #[.string T, .int .i64 0]) ∧ Below w.heap.size w w' := by
  rw [← hT]; exact encode_yes r h w
end Go.Proofs.Ytjeebamllahgkaa
