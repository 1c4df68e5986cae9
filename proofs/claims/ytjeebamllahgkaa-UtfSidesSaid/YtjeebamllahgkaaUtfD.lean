/- The contract of utf.Encode: the bytes of the plain mathematics, or ErrRange. -/
import Derived.Test.YtjeebamllahgkaaUtfC
import Derived.Laws.BytesArg
import Derived.Laws.IdiomStrings
namespace Go.Proofs.Ytjeebamllahgkaa
open Go.RowKit
theorem slice4 (n : Nat) (hn : n ≤ 4) (b : Nat) (wx : World) :
    (Instr.sliceAt 41 (.pointer (some ⟨b, 0, none⟩)) none (some (.int .i64 (n : Int))) none).run Try.prog wx = .ok (.slice (some ⟨b, 0, none⟩) n 4) wx := by
  rcases (by omega : n = 0 ∨ n = 1 ∨ n = 2 ∨ n = 3 ∨ n = 4) with rfl | rfl | rfl | rfl | rfl <;> kernel_rfl
theorem conv4 (xs : List Int) (n : Nat) (hl : xs.length = n) (hn : n ≤ 4) (w1 : World) :
    (convert 43 9 (.slice (some ⟨w1.heap.size, 0, none⟩) n 4)).run Try.prog (w1.alloc (.cells #[.int .u8 (xs[0]?.getD 0), .int .u8 (xs[1]?.getD 0), .int .u8 (xs[2]?.getD 0), .int .u8 (xs[3]?.getD 0)] 41)) =
      .ok (.string (strOfNums xs)) (w1.alloc (.cells #[.int .u8 (xs[0]?.getD 0), .int .u8 (xs[1]?.getD 0), .int .u8 (xs[2]?.getD 0), .int .u8 (xs[3]?.getD 0)] 41)) := by
  refine run_convert_bytes_arg _ 43 5 Try.underlying43 Try.underlying5 w1.heap.size 0 n 4 xs hl ?_ 9 Try.underlying9
  intro i hi
  rw [Nat.zero_add, World.cell?_alloc_mark]
  rcases (by omega : i = 0 ∨ i = 1 ∨ i = 2 ∨ i = 3) with rfl | rfl | rfl | rfl <;> simp [List.getD]
set_option maxRecDepth 100000 in
set_option maxHeartbeats 400000 in
theorem encode_yes (r : Int) (h : Utf.width r ≠ 0) (w : World) : Calls Try.prog 9 #[.int .i64 r] w fun e w' =>
    e = .returned (.tuple #[.string (strOfNums (Utf.encN r)), .int .i64 0]) ∧ Below w.heap.size w w' := by
  obtain ⟨n, hn⟩ : ∃ n : Nat, Utf.width r = n := ⟨(Utf.width r).toNat, by have := Utf.width_le r; omega⟩
  have hl : (Utf.encN r).length = n := by have := Utf.encN_length r; omega
  have hn4 : n ≤ 4 := by have := Utf.width_le r; omega
  have hn0 : n ≠ 0 := by omega
  have hz : ((n : Int) == 0) = false := by simp; omega
  have hsp := spell_any r h
  rw [hn] at hsp
  unfold cell4 at hsp
  have hsl := slice4 n hn4
  have hcv := conv4 (Utf.encN r) n hl hn4
  have HN := Lib.hid hn
  have HS := Lib.hid hsp
  clear hn hl hsp h
  go_enter Try.func9, Try.ntmps9
  go_wp2_with (first | (go_at_call 13; refine (width_any _ _).mono ?_; rintro e w' ⟨rfl, rfl⟩; rw [HN.out]) | (go_at_call 24; refine (HS.out _).mono ?_; rintro e w1 ⟨rfl, hb1⟩))
  go_ret2
  exact ⟨rfl, hb1.alloc hb1.size _⟩
theorem encode_no (r : Int) (h : Utf.width r = 0) (w : World) : Calls Try.prog 9 #[.int .i64 r] w fun e w' =>
    e = .returned (.tuple #[.string ByteArray.empty, .int .i64 1]) ∧ w = w' := by
  have HN := Lib.hid h
  clear h
  go_enter Try.func9, Try.ntmps9
  go_wp2_with (first | (go_at_call 13; refine (width_any _ _).mono ?_; rintro e w' ⟨rfl, rfl⟩; rw [HN.out]))
  go_ret2
  exact ⟨rfl, rfl⟩
end Go.Proofs.Ytjeebamllahgkaa
