/- The contracts of the reference's Encode and said (burinref01). -/
import Derived.Test.YtjeebamllahgkaaLaw01A
namespace Go.Proofs.Ytjeebamllahgkaa
open Go.RowKit
set_option linter.unusedVariables false
theorem convRow (xs : List Int) (n : Nat) (C : Array Value) (T : TypeId) (hl : xs.length = n) (hC : ∀ i, i < n → C[i]? = some (.int .u8 (xs.getD i 0))) (w1 : World) :
    (convert 43 9 (.slice (some ⟨w1.heap.size, 0, none⟩) n n)).run Try.prog (w1.alloc (.cells C T)) = .ok (.string (strOfNums xs)) (w1.alloc (.cells C T)) := by
  refine run_convert_bytes_arg _ 43 5 Try.underlying43 Try.underlying5 w1.heap.size 0 n n xs hl ?_ 9 Try.underlying9
  intro i hi
  rw [Nat.zero_add, World.cell?_alloc_mark]
  exact hC i hi
set_option maxRecDepth 100000 in
set_option maxHeartbeats 400000 in
theorem refEnc1 (r : Int) (hw : Utf.width r = 1) (h1 : 0 ≤ r) (h2 : r ≤ 127) (w : World) : Calls Try.prog 10 #[.int .i64 r] w fun e w' =>
    e = .returned (.tuple #[.string (strOfNums [r]), .int .i64 0]) ∧ Below w.heap.size w w' := by
  have HW := Lib.hid hw
  clear hw
  have hcv := fun T w1 => convRow [r] 1 #[.int .u8 (r)] T rfl (by intro i hi; rcases (by omega : i = 0) with rfl <;> rfl) w1
  go_enter Try.func10, Try.ntmps10
  go_wp2_with (go_at_call 14; refine (refWidth_any _ _).mono ?_; rintro e w' ⟨rfl, rfl⟩; rw [HW.out])
  go_ret2
  exact ⟨rfl, (Below.refl _ _).alloc (Nat.le_refl _) _⟩
set_option maxRecDepth 100000 in
set_option maxHeartbeats 400000 in
theorem refEnc2 (r : Int) (hw : Utf.width r = 2) (h1 : 128 ≤ r) (h2 : r ≤ 2047) (w : World) : Calls Try.prog 10 #[.int .i64 r] w fun e w' =>
    e = .returned (.tuple #[.string (strOfNums [192 + r / 64, 128 + r % 64]), .int .i64 0]) ∧ Below w.heap.size w w' := by
  have HW := Lib.hid hw
  clear hw
  have hcv := fun T w1 => convRow [192 + r / 64, 128 + r % 64] 2 #[.int .u8 (192 + r / 64), .int .u8 (128 + r % 64)] T rfl (by intro i hi; rcases (by omega : i = 0 ∨ i = 1) with rfl | rfl <;> rfl) w1
  go_enter Try.func10, Try.ntmps10
  go_wp2_with (go_at_call 14; refine (refWidth_any _ _).mono ?_; rintro e w' ⟨rfl, rfl⟩; rw [HW.out])
  go_ret2
  exact ⟨rfl, (Below.refl _ _).alloc (Nat.le_refl _) _⟩
set_option maxRecDepth 100000 in
set_option maxHeartbeats 400000 in
theorem refEnc3 (r : Int) (hw : Utf.width r = 3) (h1 : 2048 ≤ r) (h2 : r ≤ 65535) (w : World) : Calls Try.prog 10 #[.int .i64 r] w fun e w' =>
    e = .returned (.tuple #[.string (strOfNums [224 + r / 4096, 128 + r / 64 % 64, 128 + r % 64]), .int .i64 0]) ∧ Below w.heap.size w w' := by
  have HW := Lib.hid hw
  clear hw
  have hcv := fun T w1 => convRow [224 + r / 4096, 128 + r / 64 % 64, 128 + r % 64] 3 #[.int .u8 (224 + r / 4096), .int .u8 (128 + r / 64 % 64), .int .u8 (128 + r % 64)] T rfl (by intro i hi; rcases (by omega : i = 0 ∨ i = 1 ∨ i = 2) with rfl | rfl | rfl <;> rfl) w1
  go_enter Try.func10, Try.ntmps10
  go_wp2_with (go_at_call 14; refine (refWidth_any _ _).mono ?_; rintro e w' ⟨rfl, rfl⟩; rw [HW.out])
  go_ret2
  exact ⟨rfl, (Below.refl _ _).alloc (Nat.le_refl _) _⟩
set_option maxRecDepth 100000 in
set_option maxHeartbeats 400000 in
theorem refEnc4 (r : Int) (hw : Utf.width r = 4) (h1 : 65536 ≤ r) (h2 : r ≤ 1114111) (w : World) : Calls Try.prog 10 #[.int .i64 r] w fun e w' =>
    e = .returned (.tuple #[.string (strOfNums [240 + r / 262144, 128 + r / 4096 % 64, 128 + r / 64 % 64, 128 + r % 64]), .int .i64 0]) ∧ Below w.heap.size w w' := by
  have HW := Lib.hid hw
  clear hw
  have hcv := fun T w1 => convRow [240 + r / 262144, 128 + r / 4096 % 64, 128 + r / 64 % 64, 128 + r % 64] 4 #[.int .u8 (240 + r / 262144), .int .u8 (128 + r / 4096 % 64), .int .u8 (128 + r / 64 % 64), .int .u8 (128 + r % 64)] T rfl (by intro i hi; rcases (by omega : i = 0 ∨ i = 1 ∨ i = 2 ∨ i = 3) with rfl | rfl | rfl | rfl <;> rfl) w1
  go_enter Try.func10, Try.ntmps10
  go_wp2_with (go_at_call 14; refine (refWidth_any _ _).mono ?_; rintro e w' ⟨rfl, rfl⟩; rw [HW.out])
  go_ret2
  exact ⟨rfl, (Below.refl _ _).alloc (Nat.le_refl _) _⟩
theorem refEncode_yes (r : Int) (h : Utf.width r ≠ 0) (w : World) : Calls Try.prog 10 #[.int .i64 r] w fun e w' =>
    e = .returned (.tuple #[.string (strOfNums (Utf.encN r)), .int .i64 0]) ∧ Below w.heap.size w w' := by
  rcases Utf.width_cases r with ⟨q, _⟩ | ⟨q, h1, h2⟩ | ⟨q, h1, h2⟩ | ⟨q, h1, h2, h3⟩ | ⟨q, h1, h2⟩
  · exact absurd q h
  · have e : Utf.encN r = [r] := by simp [Utf.encN, q]
    rw [e]; exact refEnc1 r q h1 h2 w
  · have e : Utf.encN r = [192 + r / 64, 128 + r % 64] := by simp [Utf.encN, q]
    rw [e]; exact refEnc2 r q h1 h2 w
  · have e : Utf.encN r = [224 + r / 4096, 128 + r / 64 % 64, 128 + r % 64] := by simp [Utf.encN, q]
    rw [e]; exact refEnc3 r q h1 h2 w
  · have e : Utf.encN r = [240 + r / 262144, 128 + r / 4096 % 64, 128 + r / 64 % 64, 128 + r % 64] := by simp [Utf.encN, q]
    rw [e]; exact refEnc4 r q h1 h2 w
set_option maxRecDepth 100000 in
theorem refEncode_no (r : Int) (h : Utf.width r = 0) (w : World) : Calls Try.prog 10 #[.int .i64 r] w fun e w' =>
    e = .returned (.tuple #[.string ByteArray.empty, .int .i64 1]) ∧ w = w' := by
  have HW := Lib.hid h
  clear h
  go_enter Try.func10, Try.ntmps10
  go_wp2_with (go_at_call 14; refine (refWidth_any _ _).mono ?_; rintro e w' ⟨rfl, rfl⟩; rw [HW.out])
  go_ret2
  exact ⟨rfl, rfl⟩
set_option maxRecDepth 100000 in
set_option maxHeartbeats 400000 in
theorem said1 (s : ByteArray) (hs : s.size ≤ 140737488351232) (hn : 1 ≤ s.size) (w : World) : Calls Try.prog 27 #[.string s, .int .i64 1] w fun e w' =>
    e = .returned (.int .i64 ((s[0].toNat : Int))) ∧ ∃ k, w' = w.drewN k := by
  have i0 : (0 : Int) < (s.size : Int) := by omega
  have j0 : 0 < s.size := by omega
  have b0 : s[0].toNat < 256 := UInt8.toNat_lt _
  go_enter Try.func27, Try.ntmps27
  go_wp2
  go_ret
  exact ⟨ret_int rfl, 0, rfl⟩
set_option maxRecDepth 100000 in
set_option maxHeartbeats 400000 in
theorem said2 (s : ByteArray) (hs : s.size ≤ 140737488351232) (hn : 2 ≤ s.size) (w : World) : Calls Try.prog 27 #[.string s, .int .i64 2] w fun e w' =>
    e = .returned (.int .i64 ((s[0].toNat : Int) % 32 * 64 + (s[1].toNat : Int) % 64)) ∧ ∃ k, w' = w.drewN k := by
  have i0 : (0 : Int) < (s.size : Int) := by omega
  have j0 : 0 < s.size := by omega
  have b0 : s[0].toNat < 256 := UInt8.toNat_lt _
  have i1 : (1 : Int) < (s.size : Int) := by omega
  have j1 : 1 < s.size := by omega
  have b1 : s[1].toNat < 256 := UInt8.toNat_lt _
  go_enter Try.func27, Try.ntmps27
  go_wp2
  go_quiet (fail)
  go_wp2
  go_ret
  exact ⟨ret_int rfl, _, rfl⟩
set_option maxRecDepth 100000 in
set_option maxHeartbeats 400000 in
theorem said3 (s : ByteArray) (hs : s.size ≤ 140737488351232) (hn : 3 ≤ s.size) (w : World) : Calls Try.prog 27 #[.string s, .int .i64 3] w fun e w' =>
    e = .returned (.int .i64 ((s[0].toNat : Int) % 16 * 4096 + (s[1].toNat : Int) % 64 * 64 + (s[2].toNat : Int) % 64)) ∧ ∃ k, w' = w.drewN k := by
  have i0 : (0 : Int) < (s.size : Int) := by omega
  have j0 : 0 < s.size := by omega
  have b0 : s[0].toNat < 256 := UInt8.toNat_lt _
  have i1 : (1 : Int) < (s.size : Int) := by omega
  have j1 : 1 < s.size := by omega
  have b1 : s[1].toNat < 256 := UInt8.toNat_lt _
  have i2 : (2 : Int) < (s.size : Int) := by omega
  have j2 : 2 < s.size := by omega
  have b2 : s[2].toNat < 256 := UInt8.toNat_lt _
  go_enter Try.func27, Try.ntmps27
  go_wp2
  go_quiet (fail)
  go_wp2
  go_ret
  exact ⟨ret_int rfl, _, rfl⟩
set_option maxRecDepth 100000 in
set_option maxHeartbeats 400000 in
theorem said4 (s : ByteArray) (hs : s.size ≤ 140737488351232) (hn : 4 ≤ s.size) (w : World) : Calls Try.prog 27 #[.string s, .int .i64 4] w fun e w' =>
    e = .returned (.int .i64 ((s[0].toNat : Int) % 8 * 262144 + (s[1].toNat : Int) % 64 * 4096 + (s[2].toNat : Int) % 64 * 64 + (s[3].toNat : Int) % 64)) ∧ ∃ k, w' = w.drewN k := by
  have i0 : (0 : Int) < (s.size : Int) := by omega
  have j0 : 0 < s.size := by omega
  have b0 : s[0].toNat < 256 := UInt8.toNat_lt _
  have i1 : (1 : Int) < (s.size : Int) := by omega
  have j1 : 1 < s.size := by omega
  have b1 : s[1].toNat < 256 := UInt8.toNat_lt _
  have i2 : (2 : Int) < (s.size : Int) := by omega
  have j2 : 2 < s.size := by omega
  have b2 : s[2].toNat < 256 := UInt8.toNat_lt _
  have i3 : (3 : Int) < (s.size : Int) := by omega
  have j3 : 3 < s.size := by omega
  have b3 : s[3].toNat < 256 := UInt8.toNat_lt _
  go_enter Try.func27, Try.ntmps27
  go_wp2
  go_quiet (fail)
  go_wp2
  go_ret
  exact ⟨ret_int rfl, _, rfl⟩
end Go.Proofs.Ytjeebamllahgkaa
