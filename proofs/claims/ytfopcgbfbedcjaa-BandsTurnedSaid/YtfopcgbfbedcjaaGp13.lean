/- The contracts of the reference's Encode and said (burinref01). · The plain mathematics of the reference's decoding: the first length whose reading encodes to the bytes read. -/
import Derived.Test.YtfopcgbfbedcjaaGp7
import Derived.Test.YtfopcgbfbedcjaaGp5
namespace Go.Proofs.Ytfopcgbfbedcjaa
open Go.RowKit
set_option linter.unusedVariables false
theorem convRow (xs : List Int) (n : Nat) (C : Array Value) (T : TypeId) (hl : xs.length = n) (hC : ∀ i, i < n → C[i]? = some (.int .u8 (xs.getD i 0))) (w1 : World) :
    (convert 45 9 (.slice (some ⟨w1.heap.size, 0, none⟩) n n)).run Try.prog (w1.alloc (.cells C T)) = .ok (.string (strOfNums xs)) (w1.alloc (.cells C T)) := by
  refine run_convert_bytes_arg _ 45 5 Try.underlying45 Try.underlying5 w1.heap.size 0 n n xs hl ?_ 9 Try.underlying9
  intro i hi
  rw [Nat.zero_add, World.cell?_alloc_mark]
  exact hC i hi
set_option maxRecDepth 100000 in
set_option maxHeartbeats 400000 in
theorem refEnc1 (r : Int) (hw : Utf.width r = 1) (h1 : 0 ≤ r) (h2 : r ≤ 127) (w : World) : Calls Try.prog 40 #[.int .i64 r] w fun e w' =>
    e = .returned (.tuple #[.string (strOfNums [r]), .int .i64 0]) ∧ Below w.heap.size w w' := by
  have HW := Lib.hid hw
  clear hw
  have hcv := fun T w1 => convRow [r] 1 #[.int .u8 (r)] T rfl (by intro i hi; rcases (by omega : i = 0) with rfl <;> rfl) w1
  go_enter Try.func40, Try.ntmps40
  go_wp2_with (go_at_call 53; refine (refWidth_any _ _).mono ?_; rintro e w' ⟨rfl, rfl⟩; rw [HW.out])
  go_ret2
  exact ⟨rfl, (Below.refl _ _).alloc (Nat.le_refl _) _⟩
set_option maxRecDepth 100000 in
set_option maxHeartbeats 400000 in
theorem refEnc2 (r : Int) (hw : Utf.width r = 2) (h1 : 128 ≤ r) (h2 : r ≤ 2047) (w : World) : Calls Try.prog 40 #[.int .i64 r] w fun e w' =>
    e = .returned (.tuple #[.string (strOfNums [192 + r / 64, 128 + r % 64]), .int .i64 0]) ∧ Below w.heap.size w w' := by
  have HW := Lib.hid hw
  clear hw
  have hcv := fun T w1 => convRow [192 + r / 64, 128 + r % 64] 2 #[.int .u8 (192 + r / 64), .int .u8 (128 + r % 64)] T rfl (by intro i hi; rcases (by omega : i = 0 ∨ i = 1) with rfl | rfl <;> rfl) w1
  go_enter Try.func40, Try.ntmps40
  go_wp2_with (go_at_call 53; refine (refWidth_any _ _).mono ?_; rintro e w' ⟨rfl, rfl⟩; rw [HW.out])
  go_ret2
  exact ⟨rfl, (Below.refl _ _).alloc (Nat.le_refl _) _⟩
set_option maxRecDepth 100000 in
set_option maxHeartbeats 400000 in
theorem refEnc3 (r : Int) (hw : Utf.width r = 3) (h1 : 2048 ≤ r) (h2 : r ≤ 65535) (w : World) : Calls Try.prog 40 #[.int .i64 r] w fun e w' =>
    e = .returned (.tuple #[.string (strOfNums [224 + r / 4096, 128 + r / 64 % 64, 128 + r % 64]), .int .i64 0]) ∧ Below w.heap.size w w' := by
  have HW := Lib.hid hw
  clear hw
  have hcv := fun T w1 => convRow [224 + r / 4096, 128 + r / 64 % 64, 128 + r % 64] 3 #[.int .u8 (224 + r / 4096), .int .u8 (128 + r / 64 % 64), .int .u8 (128 + r % 64)] T rfl (by intro i hi; rcases (by omega : i = 0 ∨ i = 1 ∨ i = 2) with rfl | rfl | rfl <;> rfl) w1
  go_enter Try.func40, Try.ntmps40
  go_wp2_with (go_at_call 53; refine (refWidth_any _ _).mono ?_; rintro e w' ⟨rfl, rfl⟩; rw [HW.out])
  go_ret2
  exact ⟨rfl, (Below.refl _ _).alloc (Nat.le_refl _) _⟩
set_option maxRecDepth 100000 in
set_option maxHeartbeats 400000 in
theorem refEnc4 (r : Int) (hw : Utf.width r = 4) (h1 : 65536 ≤ r) (h2 : r ≤ 1114111) (w : World) : Calls Try.prog 40 #[.int .i64 r] w fun e w' =>
    e = .returned (.tuple #[.string (strOfNums [240 + r / 262144, 128 + r / 4096 % 64, 128 + r / 64 % 64, 128 + r % 64]), .int .i64 0]) ∧ Below w.heap.size w w' := by
  have HW := Lib.hid hw
  clear hw
  have hcv := fun T w1 => convRow [240 + r / 262144, 128 + r / 4096 % 64, 128 + r / 64 % 64, 128 + r % 64] 4 #[.int .u8 (240 + r / 262144), .int .u8 (128 + r / 4096 % 64), .int .u8 (128 + r / 64 % 64), .int .u8 (128 + r % 64)] T rfl (by intro i hi; rcases (by omega : i = 0 ∨ i = 1 ∨ i = 2 ∨ i = 3) with rfl | rfl | rfl | rfl <;> rfl) w1
  go_enter Try.func40, Try.ntmps40
  go_wp2_with (go_at_call 53; refine (refWidth_any _ _).mono ?_; rintro e w' ⟨rfl, rfl⟩; rw [HW.out])
  go_ret2
  exact ⟨rfl, (Below.refl _ _).alloc (Nat.le_refl _) _⟩
theorem refEncode_yes (r : Int) (h : Utf.width r ≠ 0) (w : World) : Calls Try.prog 40 #[.int .i64 r] w fun e w' =>
    e = .returned (.tuple #[.string (strOfNums (Utf.encN r)), .int .i64 0]) ∧ Below w.heap.size w w' := by
  rcases Utf.width_cases r with ⟨q, _⟩ | ⟨q, h1, h2⟩ | ⟨q, h1, h2⟩ | ⟨q, h1, h2, h3⟩ | ⟨q, h1, h2⟩
  · exact absurd q h
  · have e : Utf.encN r = [r] := by simp [Utf.encN, q]
    rw [e]; exact refEnc1 r q h1 h2 w
  · have e : Utf.encN r = [192 + r / 64, 128 + r % 64] := by simp [Utf.encN, q]
    rw [e]; exact refEnc2 r q h1 h2 w
  · have e : Utf.encN r = [224 + r / 4096, 128 + r / 64 % 64, 128 + r % 64] := by simp [Utf.encN, q]
    rw [e]; exact refEnc3 r q h1 h2 w
  · have e : Utf.encN r = [240 + r / 262144, 128 + r / 4096 % 64, 128 + r / 64 % 64, 128 + r % 64] := by simp [Utf.encN, q]
    rw [e]; exact refEnc4 r q h1 h2 w
set_option maxRecDepth 100000 in
theorem refEncode_no (r : Int) (h : Utf.width r = 0) (w : World) : Calls Try.prog 40 #[.int .i64 r] w fun e w' =>
    e = .returned (.tuple #[.string ByteArray.empty, .int .i64 1]) ∧ w = w' := by
  have HW := Lib.hid h
  clear h
  go_enter Try.func40, Try.ntmps40
  go_wp2_with (go_at_call 53; refine (refWidth_any _ _).mono ?_; rintro e w' ⟨rfl, rfl⟩; rw [HW.out])
  go_ret2
  exact ⟨rfl, rfl⟩
set_option maxRecDepth 100000 in
set_option maxHeartbeats 400000 in
theorem said1 (s : ByteArray) (hs : s.size ≤ 140737488351232) (hn : 1 ≤ s.size) (w : World) : Calls Try.prog 60 #[.string s, .int .i64 1] w fun e w' =>
    e = .returned (.int .i64 ((s[0].toNat : Int))) ∧ ∃ k, w' = w.drewN k := by
  have i0 : (0 : Int) < (s.size : Int) := by omega
  have j0 : 0 < s.size := by omega
  have b0 : s[0].toNat < 256 := UInt8.toNat_lt _
  go_enter Try.func60, Try.ntmps60
  go_wp2
  go_ret
  exact ⟨ret_int rfl, 0, rfl⟩
set_option maxRecDepth 100000 in
set_option maxHeartbeats 400000 in
theorem said2 (s : ByteArray) (hs : s.size ≤ 140737488351232) (hn : 2 ≤ s.size) (w : World) : Calls Try.prog 60 #[.string s, .int .i64 2] w fun e w' =>
    e = .returned (.int .i64 ((s[0].toNat : Int) % 32 * 64 + (s[1].toNat : Int) % 64)) ∧ ∃ k, w' = w.drewN k := by
  have i0 : (0 : Int) < (s.size : Int) := by omega
  have j0 : 0 < s.size := by omega
  have b0 : s[0].toNat < 256 := UInt8.toNat_lt _
  have i1 : (1 : Int) < (s.size : Int) := by omega
  have j1 : 1 < s.size := by omega
  have b1 : s[1].toNat < 256 := UInt8.toNat_lt _
  go_enter Try.func60, Try.ntmps60
  go_wp2
  go_quiet (fail)
  go_wp2
  go_ret
  exact ⟨ret_int rfl, _, rfl⟩
set_option maxRecDepth 100000 in
set_option maxHeartbeats 400000 in
theorem said3 (s : ByteArray) (hs : s.size ≤ 140737488351232) (hn : 3 ≤ s.size) (w : World) : Calls Try.prog 60 #[.string s, .int .i64 3] w fun e w' =>
    e = .returned (.int .i64 ((s[0].toNat : Int) % 16 * 4096 + (s[1].toNat : Int) % 64 * 64 + (s[2].toNat : Int) % 64)) ∧ ∃ k, w' = w.drewN k := by
  have i0 : (0 : Int) < (s.size : Int) := by omega
  have j0 : 0 < s.size := by omega
  have b0 : s[0].toNat < 256 := UInt8.toNat_lt _
  have i1 : (1 : Int) < (s.size : Int) := by omega
  have j1 : 1 < s.size := by omega
  have b1 : s[1].toNat < 256 := UInt8.toNat_lt _
  have i2 : (2 : Int) < (s.size : Int) := by omega
  have j2 : 2 < s.size := by omega
  have b2 : s[2].toNat < 256 := UInt8.toNat_lt _
  go_enter Try.func60, Try.ntmps60
  go_wp2
  go_quiet (fail)
  go_wp2
  go_ret
  exact ⟨ret_int rfl, _, rfl⟩
set_option maxRecDepth 100000 in
set_option maxHeartbeats 400000 in
theorem said4 (s : ByteArray) (hs : s.size ≤ 140737488351232) (hn : 4 ≤ s.size) (w : World) : Calls Try.prog 60 #[.string s, .int .i64 4] w fun e w' =>
    e = .returned (.int .i64 ((s[0].toNat : Int) % 8 * 262144 + (s[1].toNat : Int) % 64 * 4096 + (s[2].toNat : Int) % 64 * 64 + (s[3].toNat : Int) % 64)) ∧ ∃ k, w' = w.drewN k := by
  have i0 : (0 : Int) < (s.size : Int) := by omega
  have j0 : 0 < s.size := by omega
  have b0 : s[0].toNat < 256 := UInt8.toNat_lt _
  have i1 : (1 : Int) < (s.size : Int) := by omega
  have j1 : 1 < s.size := by omega
  have b1 : s[1].toNat < 256 := UInt8.toNat_lt _
  have i2 : (2 : Int) < (s.size : Int) := by omega
  have j2 : 2 < s.size := by omega
  have b2 : s[2].toNat < 256 := UInt8.toNat_lt _
  have i3 : (3 : Int) < (s.size : Int) := by omega
  have j3 : 3 < s.size := by omega
  have b3 : s[3].toNat < 256 := UInt8.toNat_lt _
  go_enter Try.func60, Try.ntmps60
  go_wp2
  go_quiet (fail)
  go_wp2
  go_ret
  exact ⟨ret_int rfl, _, rfl⟩
end Go.Proofs.Ytfopcgbfbedcjaa
namespace Go.Proofs.Ytfopcgbfbedcjaa.Utf
def saidN (l : List Int) : Nat → Int
  | 1 => l[0]?.getD 0
  | 2 => l[0]?.getD 0 % 32 * 64 + l[1]?.getD 0 % 64
  | 3 => l[0]?.getD 0 % 16 * 4096 + l[1]?.getD 0 % 64 * 64 + l[2]?.getD 0 % 64
  | 4 => l[0]?.getD 0 % 8 * 262144 + l[1]?.getD 0 % 64 * 4096 + l[2]?.getD 0 % 64 * 64 + l[3]?.getD 0 % 64
  | _ => 0
def Hit (l : List Int) (k : Nat) : Prop := width (saidN l k) ≠ 0 ∧ encN (saidN l k) = l.take k
theorem said_enc (r : Int) (h : width r ≠ 0) (t : List Int) : saidN (encN r ++ t) (width r).toNat = r := by
  rcases width_cases r with ⟨w, _⟩ | ⟨w, h1, h2⟩ | ⟨w, h1, h2⟩ | ⟨w, h1, h2, h3⟩ | ⟨w, h1, h2⟩
  · exact absurd w h
  · rw [w]
    have e : encN r ++ t = r :: t := by simp [encN, w]
    rw [e]; rfl
  · rw [w]
    have e : encN r ++ t = (192 + r / 64) :: (128 + r % 64) :: t := by simp [encN, w]
    rw [e]; show (192 + r / 64) % 32 * 64 + (128 + r % 64) % 64 = r; omega
  · rw [w]
    have e : encN r ++ t = (224 + r / 4096) :: (128 + r / 64 % 64) :: (128 + r % 64) :: t := by simp [encN, w]
    rw [e]; show (224 + r / 4096) % 16 * 4096 + (128 + r / 64 % 64) % 64 * 64 + (128 + r % 64) % 64 = r; omega
  · rw [w]
    have e : encN r ++ t = (240 + r / 262144) :: (128 + r / 4096 % 64) :: (128 + r / 64 % 64) :: (128 + r % 64) :: t := by simp [encN, w]
    rw [e]; show (240 + r / 262144) % 8 * 262144 + (128 + r / 4096 % 64) % 64 * 4096 + (128 + r / 64 % 64) % 64 * 64 + (128 + r % 64) % 64 = r; omega
theorem hit_dec (l : List Int) (k : Nat) (hk : k ≤ l.length) (h : Hit l k) : dec l = (saidN l k, (k : Int)) := by
  have e := dec_enc _ h.1 (l.drop k)
  have hl := encN_length (saidN l k)
  rw [h.2, List.take_append_drop] at e
  rw [h.2, List.length_take, Nat.min_eq_left hk] at hl
  rw [e, hl]
theorem miss_dec (l : List Int) (hb : Bytes l) (hl : l ≠ []) (h : ∀ k, 1 ≤ k → k ≤ 4 → k ≤ l.length → ¬ Hit l k) : dec l = (-1, 1) := by
  rcases dec_some l hb with ⟨e, _⟩ | ⟨_, e⟩ | ⟨h1, h2, t, ht⟩
  · exact absurd e hl
  · exact e
  · exfalso
    obtain ⟨r, hr⟩ : ∃ r, (dec l).1 = r := ⟨_, rfl⟩
    rw [hr] at h1 h2 ht
    have hw := width_le r
    have hlen := encN_length r
    have hll := congrArg List.length ht
    rw [List.length_append] at hll
    have hs : saidN l (width r).toNat = r := by
      rw [ht]; exact said_enc r h1 t
    refine h (width r).toNat (by omega) (by omega) (by omega) ⟨by rw [hs]; exact h1, ?_⟩
    rw [hs, ht, List.take_append_of_le_length (by omega), List.take_of_length_le (by omega)]
end Go.Proofs.Ytfopcgbfbedcjaa.Utf
