/- The contracts of the reference's Encode and said (burinref01). · The plain mathematics of the reference's decoding: the first length whose reading encodes to the bytes read. · The contract of the reference's Decode (burinref01). · The reference's bands (burinref05): the contract of all. · The reference's bands (burinref05): the contract of filled. -/
import Derived.Test.YtfopcgbfbedcjaaPk4
import Derived.Test.YtfopcgbfbedcjaaPk3
import Derived.Test.YtfopcgbfbedcjaaPk5
import Derived.Test.YtfopcgbfbedcjaaPk2
import Derived.Laws.IdiomStrings
namespace Go.Proofs.Ytfopcgbfbedcjaa
open Go.RowKit
set_option linter.unusedVariables false
theorem convRow (xs : List Int) (n : Nat) (C : Array Value) (T : TypeId) (hl : xs.length = n) (hC : ∀ i, i < n → C[i]? = some (.int .u8 (xs.getD i 0))) (w1 : World) :
    (convert 45 9 (.slice (some ⟨w1.heap.size, 0, none⟩) n n)).run Try.prog (w1.alloc (.cells C T)) = .ok (.string (strOfNums xs)) (w1.alloc (.cells C T)) := by
  refine run_convert_bytes_arg _ 45 5 Try.underlying45 Try.underlying5 w1.heap.size 0 n n xs hl ?_ 9 Try.underlying9
  intro i hi
  rw [Nat.zero_add, World.cell?_alloc_mark]
  exact hC i hi
set_option maxRecDepth 100000 in
set_option maxHeartbeats 400000 in
theorem refEnc1 (r : Int) (hw : Utf.width r = 1) (h1 : 0 ≤ r) (h2 : r ≤ 127) (w : World) : Calls Try.prog 40 #[.int .i64 r] w fun e w' =>
    e = .returned (.tuple #[.string (strOfNums [r]), .int .i64 0]) ∧ Below w.heap.size w w' := by
  have HW := Lib.hid hw
  clear hw
  have hcv := fun T w1 => convRow [r] 1 #[.int .u8 (r)] T rfl (by intro i hi; rcases (by omega : i = 0) with rfl <;> rfl) w1
  go_enter Try.func40, Try.ntmps40
  go_wp2_with (go_at_call 53; refine (refWidth_any _ _).mono ?_; rintro e w' ⟨rfl, rfl⟩; rw [HW.out])
  go_ret2
  exact ⟨rfl, (Below.refl _ _).alloc (Nat.le_refl _) _⟩
set_option maxRecDepth 100000 in
set_option maxHeartbeats 400000 in
theorem refEnc2 (r : Int) (hw : Utf.width r = 2) (h1 : 128 ≤ r) (h2 : r ≤ 2047) (w : World) : Calls Try.prog 40 #[.int .i64 r] w fun e w' =>
    e = .returned (.tuple #[.string (strOfNums [192 + r / 64, 128 + r % 64]), .int .i64 0]) ∧ Below w.heap.size w w' := by
  have HW := Lib.hid hw
  clear hw
  have hcv := fun T w1 => convRow [192 + r / 64, 128 + r % 64] 2 #[.int .u8 (192 + r / 64), .int .u8 (128 + r % 64)] T rfl (by intro i hi; rcases (by omega : i = 0 ∨ i = 1) with rfl | rfl <;> rfl) w1
  go_enter Try.func40, Try.ntmps40
  go_wp2_with (go_at_call 53; refine (refWidth_any _ _).mono ?_; rintro e w' ⟨rfl, rfl⟩; rw [HW.out])
  go_ret2
  exact ⟨rfl, (Below.refl _ _).alloc (Nat.le_refl _) _⟩
set_option maxRecDepth 100000 in
set_option maxHeartbeats 400000 in
theorem refEnc3 (r : Int) (hw : Utf.width r = 3) (h1 : 2048 ≤ r) (h2 : r ≤ 65535) (w : World) : Calls Try.prog 40 #[.int .i64 r] w fun e w' =>
    e = .returned (.tuple #[.string (strOfNums [224 + r / 4096, 128 + r / 64 % 64, 128 + r % 64]), .int .i64 0]) ∧ Below w.heap.size w w' := by
  have HW := Lib.hid hw
  clear hw
  have hcv := fun T w1 => convRow [224 + r / 4096, 128 + r / 64 % 64, 128 + r % 64] 3 #[.int .u8 (224 + r / 4096), .int .u8 (128 + r / 64 % 64), .int .u8 (128 + r % 64)] T rfl (by intro i hi; rcases (by omega : i = 0 ∨ i = 1 ∨ i = 2) with rfl | rfl | rfl <;> rfl) w1
  go_enter Try.func40, Try.ntmps40
  go_wp2_with (go_at_call 53; refine (refWidth_any _ _).mono ?_; rintro e w' ⟨rfl, rfl⟩; rw [HW.out])
  go_ret2
  exact ⟨rfl, (Below.refl _ _).alloc (Nat.le_refl _) _⟩
set_option maxRecDepth 100000 in
set_option maxHeartbeats 400000 in
theorem refEnc4 (r : Int) (hw : Utf.width r = 4) (h1 : 65536 ≤ r) (h2 : r ≤ 1114111) (w : World) : Calls Try.prog 40 #[.int .i64 r] w fun e w' =>
    e = .returned (.tuple #[.string (strOfNums [240 + r / 262144, 128 + r / 4096 % 64, 128 + r / 64 % 64, 128 + r % 64]), .int .i64 0]) ∧ Below w.heap.size w w' := by
  have HW := Lib.hid hw
  clear hw
  have hcv := fun T w1 => convRow [240 + r / 262144, 128 + r / 4096 % 64, 128 + r / 64 % 64, 128 + r % 64] 4 #[.int .u8 (240 + r / 262144), .int .u8 (128 + r / 4096 % 64), .int .u8 (128 + r / 64 % 64), .int .u8 (128 + r % 64)] T rfl (by intro i hi; rcases (by omega : i = 0 ∨ i = 1 ∨ i = 2 ∨ i = 3) with rfl | rfl | rfl | rfl <;> rfl) w1
  go_enter Try.func40, Try.ntmps40
  go_wp2_with (go_at_call 53; refine (refWidth_any _ _).mono ?_; rintro e w' ⟨rfl, rfl⟩; rw [HW.out])
  go_ret2
  exact ⟨rfl, (Below.refl _ _).alloc (Nat.le_refl _) _⟩
theorem refEncode_yes (r : Int) (h : Utf.width r ≠ 0) (w : World) : Calls Try.prog 40 #[.int .i64 r] w fun e w' =>
    e = .returned (.tuple #[.string (strOfNums (Utf.encN r)), .int .i64 0]) ∧ Below w.heap.size w w' := by
  rcases Utf.width_cases r with ⟨q, _⟩ | ⟨q, h1, h2⟩ | ⟨q, h1, h2⟩ | ⟨q, h1, h2, h3⟩ | ⟨q, h1, h2⟩
  · exact absurd q h
  · have e : Utf.encN r = [r] := by simp [Utf.encN, q]
    rw [e]; exact refEnc1 r q h1 h2 w
  · have e : Utf.encN r = [192 + r / 64, 128 + r % 64] := by simp [Utf.encN, q]
    rw [e]; exact refEnc2 r q h1 h2 w
  · have e : Utf.encN r = [224 + r / 4096, 128 + r / 64 % 64, 128 + r % 64] := by simp [Utf.encN, q]
    rw [e]; exact refEnc3 r q h1 h2 w
  · have e : Utf.encN r = [240 + r / 262144, 128 + r / 4096 % 64, 128 + r / 64 % 64, 128 + r % 64] := by simp [Utf.encN, q]
    rw [e]; exact refEnc4 r q h1 h2 w
set_option maxRecDepth 100000 in
theorem refEncode_no (r : Int) (h : Utf.width r = 0) (w : World) : Calls Try.prog 40 #[.int .i64 r] w fun e w' =>
    e = .returned (.tuple #[.string ByteArray.empty, .int .i64 1]) ∧ w = w' := by
  have HW := Lib.hid h
  clear h
  go_enter Try.func40, Try.ntmps40
  go_wp2_with (go_at_call 53; refine (refWidth_any _ _).mono ?_; rintro e w' ⟨rfl, rfl⟩; rw [HW.out])
  go_ret2
  exact ⟨rfl, rfl⟩
set_option maxRecDepth 100000 in
set_option maxHeartbeats 400000 in
theorem said1 (s : ByteArray) (hs : s.size ≤ 140737488351232) (hn : 1 ≤ s.size) (w : World) : Calls Try.prog 60 #[.string s, .int .i64 1] w fun e w' =>
    e = .returned (.int .i64 ((s[0].toNat : Int))) ∧ ∃ k, w' = w.drewN k := by
  have i0 : (0 : Int) < (s.size : Int) := by omega
  have j0 : 0 < s.size := by omega
  have b0 : s[0].toNat < 256 := UInt8.toNat_lt _
  go_enter Try.func60, Try.ntmps60
  go_wp2
  go_ret
  exact ⟨ret_int rfl, 0, rfl⟩
set_option maxRecDepth 100000 in
set_option maxHeartbeats 400000 in
theorem said2 (s : ByteArray) (hs : s.size ≤ 140737488351232) (hn : 2 ≤ s.size) (w : World) : Calls Try.prog 60 #[.string s, .int .i64 2] w fun e w' =>
    e = .returned (.int .i64 ((s[0].toNat : Int) % 32 * 64 + (s[1].toNat : Int) % 64)) ∧ ∃ k, w' = w.drewN k := by
  have i0 : (0 : Int) < (s.size : Int) := by omega
  have j0 : 0 < s.size := by omega
  have b0 : s[0].toNat < 256 := UInt8.toNat_lt _
  have i1 : (1 : Int) < (s.size : Int) := by omega
  have j1 : 1 < s.size := by omega
  have b1 : s[1].toNat < 256 := UInt8.toNat_lt _
  go_enter Try.func60, Try.ntmps60
  go_wp2
  go_quiet (fail)
  go_wp2
  go_ret
  exact ⟨ret_int rfl, _, rfl⟩
set_option maxRecDepth 100000 in
set_option maxHeartbeats 400000 in
theorem said3 (s : ByteArray) (hs : s.size ≤ 140737488351232) (hn : 3 ≤ s.size) (w : World) : Calls Try.prog 60 #[.string s, .int .i64 3] w fun e w' =>
    e = .returned (.int .i64 ((s[0].toNat : Int) % 16 * 4096 + (s[1].toNat : Int) % 64 * 64 + (s[2].toNat : Int) % 64)) ∧ ∃ k, w' = w.drewN k := by
  have i0 : (0 : Int) < (s.size : Int) := by omega
  have j0 : 0 < s.size := by omega
  have b0 : s[0].toNat < 256 := UInt8.toNat_lt _
  have i1 : (1 : Int) < (s.size : Int) := by omega
  have j1 : 1 < s.size := by omega
  have b1 : s[1].toNat < 256 := UInt8.toNat_lt _
  have i2 : (2 : Int) < (s.size : Int) := by omega
  have j2 : 2 < s.size := by omega
  have b2 : s[2].toNat < 256 := UInt8.toNat_lt _
  go_enter Try.func60, Try.ntmps60
  go_wp2
  go_quiet (fail)
  go_wp2
  go_ret
  exact ⟨ret_int rfl, _, rfl⟩
set_option maxRecDepth 100000 in
set_option maxHeartbeats 400000 in
theorem said4 (s : ByteArray) (hs : s.size ≤ 140737488351232) (hn : 4 ≤ s.size) (w : World) : Calls Try.prog 60 #[.string s, .int .i64 4] w fun e w' =>
    e = .returned (.int .i64 ((s[0].toNat : Int) % 8 * 262144 + (s[1].toNat : Int) % 64 * 4096 + (s[2].toNat : Int) % 64 * 64 + (s[3].toNat : Int) % 64)) ∧ ∃ k, w' = w.drewN k := by
  have i0 : (0 : Int) < (s.size : Int) := by omega
  have j0 : 0 < s.size := by omega
  have b0 : s[0].toNat < 256 := UInt8.toNat_lt _
  have i1 : (1 : Int) < (s.size : Int) := by omega
  have j1 : 1 < s.size := by omega
  have b1 : s[1].toNat < 256 := UInt8.toNat_lt _
  have i2 : (2 : Int) < (s.size : Int) := by omega
  have j2 : 2 < s.size := by omega
  have b2 : s[2].toNat < 256 := UInt8.toNat_lt _
  have i3 : (3 : Int) < (s.size : Int) := by omega
  have j3 : 3 < s.size := by omega
  have b3 : s[3].toNat < 256 := UInt8.toNat_lt _
  go_enter Try.func60, Try.ntmps60
  go_wp2
  go_quiet (fail)
  go_wp2
  go_ret
  exact ⟨ret_int rfl, _, rfl⟩
end Go.Proofs.Ytfopcgbfbedcjaa
namespace Go.Proofs.Ytfopcgbfbedcjaa.Utf
def saidN (l : List Int) : Nat → Int
  | 1 => l[0]?.getD 0
  | 2 => l[0]?.getD 0 % 32 * 64 + l[1]?.getD 0 % 64
  | 3 => l[0]?.getD 0 % 16 * 4096 + l[1]?.getD 0 % 64 * 64 + l[2]?.getD 0 % 64
  | 4 => l[0]?.getD 0 % 8 * 262144 + l[1]?.getD 0 % 64 * 4096 + l[2]?.getD 0 % 64 * 64 + l[3]?.getD 0 % 64
  | _ => 0
def Hit (l : List Int) (k : Nat) : Prop := width (saidN l k) ≠ 0 ∧ encN (saidN l k) = l.take k
theorem said_enc (r : Int) (h : width r ≠ 0) (t : List Int) : saidN (encN r ++ t) (width r).toNat = r := by
  rcases width_cases r with ⟨w, _⟩ | ⟨w, h1, h2⟩ | ⟨w, h1, h2⟩ | ⟨w, h1, h2, h3⟩ | ⟨w, h1, h2⟩
  · exact absurd w h
  · rw [w]
    have e : encN r ++ t = r :: t := by simp [encN, w]
    rw [e]; rfl
  · rw [w]
    have e : encN r ++ t = (192 + r / 64) :: (128 + r % 64) :: t := by simp [encN, w]
    rw [e]; show (192 + r / 64) % 32 * 64 + (128 + r % 64) % 64 = r; omega
  · rw [w]
    have e : encN r ++ t = (224 + r / 4096) :: (128 + r / 64 % 64) :: (128 + r % 64) :: t := by simp [encN, w]
    rw [e]; show (224 + r / 4096) % 16 * 4096 + (128 + r / 64 % 64) % 64 * 64 + (128 + r % 64) % 64 = r; omega
  · rw [w]
    have e : encN r ++ t = (240 + r / 262144) :: (128 + r / 4096 % 64) :: (128 + r / 64 % 64) :: (128 + r % 64) :: t := by simp [encN, w]
    rw [e]; show (240 + r / 262144) % 8 * 262144 + (128 + r / 4096 % 64) % 64 * 4096 + (128 + r / 64 % 64) % 64 * 64 + (128 + r % 64) % 64 = r; omega
theorem hit_dec (l : List Int) (k : Nat) (hk : k ≤ l.length) (h : Hit l k) : dec l = (saidN l k, (k : Int)) := by
  have e := dec_enc _ h.1 (l.drop k)
  have hl := encN_length (saidN l k)
  rw [h.2, List.take_append_drop] at e
  rw [h.2, List.length_take, Nat.min_eq_left hk] at hl
  rw [e, hl]
theorem miss_dec (l : List Int) (hb : Bytes l) (hl : l ≠ []) (h : ∀ k, 1 ≤ k → k ≤ 4 → k ≤ l.length → ¬ Hit l k) : dec l = (-1, 1) := by
  rcases dec_some l hb with ⟨e, _⟩ | ⟨_, e⟩ | ⟨h1, h2, t, ht⟩
  · exact absurd e hl
  · exact e
  · exfalso
    obtain ⟨r, hr⟩ : ∃ r, (dec l).1 = r := ⟨_, rfl⟩
    rw [hr] at h1 h2 ht
    have hw := width_le r
    have hlen := encN_length r
    have hll := congrArg List.length ht
    rw [List.length_append] at hll
    have hs : saidN l (width r).toNat = r := by
      rw [ht]; exact said_enc r h1 t
    refine h (width r).toNat (by omega) (by omega) (by omega) ⟨by rw [hs]; exact h1, ?_⟩
    rw [hs, ht, List.take_append_of_le_length (by omega), List.take_of_length_le (by omega)]
end Go.Proofs.Ytfopcgbfbedcjaa.Utf
namespace Go.Proofs.Ytfopcgbfbedcjaa
open Go.RowKit
set_option linter.unusedVariables false
theorem said_any (s : ByteArray) (hs : s.size ≤ 140737488351232) (k : Nat) (h1 : 1 ≤ k) (h4 : k ≤ 4) (hk : k ≤ s.size) (w : World) : Calls Try.prog 60 #[.string s, .int .i64 k] w fun e w' =>
    e = .returned (.int .i64 (Utf.saidN (Utf.nums s) k)) ∧ ∃ j, w' = w.drewN j := by
  rcases (by omega : k = 1 ∨ k = 2 ∨ k = 3 ∨ k = 4) with rfl | rfl | rfl | rfl
  · refine (said1 s hs hk w).mono fun e w' ⟨h, h'⟩ => ⟨h.trans (ret_int ?_), h'⟩
    show _ = (Utf.nums s)[0]?.getD 0
    rw [Utf.nums_at s 0 (by omega)]
  · refine (said2 s hs hk w).mono fun e w' ⟨h, h'⟩ => ⟨h.trans (ret_int ?_), h'⟩
    show _ = (Utf.nums s)[0]?.getD 0 % 32 * 64 + (Utf.nums s)[1]?.getD 0 % 64
    rw [Utf.nums_at s 0 (by omega), Utf.nums_at s 1 (by omega)]
    rfl
  · refine (said3 s hs hk w).mono fun e w' ⟨h, h'⟩ => ⟨h.trans (ret_int ?_), h'⟩
    show _ = (Utf.nums s)[0]?.getD 0 % 16 * 4096 + (Utf.nums s)[1]?.getD 0 % 64 * 64 + (Utf.nums s)[2]?.getD 0 % 64
    rw [Utf.nums_at s 0 (by omega), Utf.nums_at s 1 (by omega), Utf.nums_at s 2 (by omega)]
    rfl
  · refine (said4 s hs hk w).mono fun e w' ⟨h, h'⟩ => ⟨h.trans (ret_int ?_), h'⟩
    show _ = (Utf.nums s)[0]?.getD 0 % 8 * 262144 + (Utf.nums s)[1]?.getD 0 % 64 * 4096 + (Utf.nums s)[2]?.getD 0 % 64 * 64 + (Utf.nums s)[3]?.getD 0 % 64
    rw [Utf.nums_at s 0 (by omega), Utf.nums_at s 1 (by omega), Utf.nums_at s 2 (by omega), Utf.nums_at s 3 (by omega)]
    rfl
theorem toList_beq {s t : ByteArray} : (s.toList == t.toList) = true ↔ s = t := by
  rw [beq_iff_eq]
  constructor
  · intro e
    apply ByteArray.ext
    rw [ByteArray.toList_eq, ByteArray.toList_eq] at e
    exact Array.toList_inj.1 e
  · intro e; rw [e]
theorem strOf_take {s : ByteArray} {xs : List Int} (h : Utf.Bytes xs) (k : Nat) : strOfNums xs = s.extract 0 k ↔ xs = (Utf.nums s).take k := by
  constructor
  · intro e
    have := congrArg Utf.nums e
    rwa [nums_strOf _ h, Utf.nums_extract, List.drop_zero, Nat.sub_zero] at this
  · intro e
    apply nums_inj
    rw [nums_strOf _ h, Utf.nums_extract, List.drop_zero, Nat.sub_zero, e]
theorem hit_true {s : ByteArray} {k : Nat} (h : Utf.Hit (Utf.nums s) k) : strOfNums (Utf.encN (Utf.saidN (Utf.nums s) k)) = s.extract 0 k :=
  (strOf_take (Utf.encN_bytes _) k).2 h.2
theorem hit_false {s : ByteArray} {k : Nat} (hw : Utf.width (Utf.saidN (Utf.nums s) k) ≠ 0) (h : ¬ Utf.Hit (Utf.nums s) k) : ((strOfNums (Utf.encN (Utf.saidN (Utf.nums s) k))).toList == (s.extract 0 k).toList) = false := by
  rw [Bool.eq_false_iff]
  intro e
  exact h ⟨hw, (strOf_take (Utf.encN_bytes _) k).1 (toList_beq.1 e)⟩

theorem miss_succ {s : ByteArray} {k : Nat} (hm : ∀ j, 1 ≤ j → j < k → j ≤ s.size → ¬ Utf.Hit (Utf.nums s) j) (hn : ¬ Utf.Hit (Utf.nums s) k) :
    ∀ j, 1 ≤ j → j < k + 1 → j ≤ s.size → ¬ Utf.Hit (Utf.nums s) j := by
  intro j h h' h''
  by_cases e : j = k
  · subst e; exact hn
  · exact hm j h (by omega) h''
set_option maxRecDepth 100000 in
set_option maxHeartbeats 1000000 in
theorem refDecode_any (s : ByteArray) (hs : s.size ≤ 140737488351232) (w : World) : Calls Try.prog 54 #[.string s] w fun e w' =>
    e = .returned (.tuple #[.int .i64 (Utf.dec (Utf.nums s)).1, .int .i64 (Utf.dec (Utf.nums s)).2]) ∧ Below w.heap.size w w' := by
  by_cases h0 : 0 < s.size
  · obtain ⟨hne, hne2⟩ := toList_ne h0
    have hnil : Utf.nums s ≠ [] := by rw [Ne, Utf.nums_nil]; omega
    have HI := Lib.hid hnil
    clear hnil
    go_enter Try.func54, Try.ntmps54
    go_wp2
    go_loopw [2, 3, 4, 5, 6, 7] (fun r2 r3 N x t e wr => ∃ k : Nat, 1 ≤ k ∧ k ≤ 5 ∧ N = .int .i64 k ∧ Hid (∀ j, 1 ≤ j → j < k → j ≤ s.size → ¬ Utf.Hit (Utf.nums s) j) ∧ Below w.heap.size w wr) (fun _ _ N _ _ _ _ => 5 - (intOf N).toNat)
    case atStart => exact ⟨1, by omega, by omega, rfl, Lib.hid (fun j h h' => by omega), Below.refl _ _⟩
    case round =>
      obtain ⟨k, hk1, hk5, rfl, HM, hB⟩ := hrel
      by_cases hin : k ≤ 4 ∧ k ≤ s.size
      · obtain ⟨hk4, hks⟩ := hin
        by_cases hh : Utf.Hit (Utf.nums s) k
        · have HD := Lib.hid (Utf.hit_dec (Utf.nums s) k (by rw [Utf.nums_length]; exact hks) hh)
          have HW := Lib.hid hh.1
          have HT := Lib.hid (hit_true hh)
          clear hh
          go_wp2_with fail
          refine (said_any s hs k hk1 hk4 hks _).mono ?_
          rintro e wa ⟨rfl, nq, rfl⟩
          go_wp2_with fail
          refine (refEncode_yes _ HW.out _).mono ?_
          rintro e wb ⟨rfl, hbb⟩
          rw [HT.out]
          go_wp2
          go_ret2
          rw [HD.out]
          exact ⟨rfl, (hB.trans (below_drewS _ _ _)).trans (hbb.mono hB.size)⟩
        · have HN := Lib.hid hh
          by_cases hw : Utf.width (Utf.saidN (Utf.nums s) k) = 0
          · have HW := Lib.hid hw
            clear hh hw
            go_wp2_with fail
            refine (said_any s hs k hk1 hk4 hks _).mono ?_
            rintro e wa ⟨rfl, nq, rfl⟩
            go_wp2_with fail
            refine (refEncode_no _ HW.out _).mono ?_
            rintro e wb ⟨rfl, rfl⟩
            go_wp2
            go_roundw
            case rel => exact ⟨k + 1, by omega, by omega, by go_num, Lib.hid (miss_succ HM.out HN.out), hB.trans (below_drewS _ _ _)⟩
            case measure => simp [intOf]; omega
          · have HW := Lib.hid hw
            have hf := hit_false hw hh
            clear hh hw
            go_wp2_with fail
            refine (said_any s hs k hk1 hk4 hks _).mono ?_
            rintro e wa ⟨rfl, nq, rfl⟩
            go_wp2_with fail
            refine (refEncode_yes _ HW.out _).mono ?_
            rintro e wb ⟨rfl, hbb⟩
            go_wp2
            go_roundw
            case rel => exact ⟨k + 1, by omega, by omega, by go_num, Lib.hid (miss_succ HM.out HN.out), (hB.trans (below_drewS _ _ _)).trans (hbb.mono hB.size)⟩
            case measure => simp [intOf]; omega
      · have HD := Lib.hid (Utf.miss_dec (Utf.nums s) (Utf.nums_bytes s) HI.out (fun j h1 h4 hj => HM.out j h1 (by rw [Utf.nums_length] at hj; omega) (by rw [Utf.nums_length] at hj; exact hj)))
        by_cases hk4 : k ≤ 4
        · have hks : ¬ k ≤ s.size := fun h => hin ⟨hk4, h⟩
          clear hin
          have hks' : s.size < k := by omega
          go_wp2
          go_ret2
          rw [HD.out]
          exact ⟨rfl, hB⟩
        · clear hin
          go_wp2
          go_ret2
          rw [HD.out]
          exact ⟨rfl, hB⟩
  · obtain ⟨hne, hne2⟩ := toList_e (s := s) (by omega)
    have HD : Utf.dec (Utf.nums s) = (-1, 0) := by rw [(Utf.nums_nil s).2 (by omega)]; rfl
    have HD := Lib.hid HD
    go_enter Try.func54, Try.ntmps54
    go_wp2
    go_ret2
    rw [HD.out]
    exact ⟨rfl, Below.refl _ _⟩
end Go.Proofs.Ytfopcgbfbedcjaa
namespace Go.Proofs.Ytfopcgbfbedcjaa
open Go.RowKit
set_option linter.unusedVariables false
theorem drop_all (l : List Int) (d : Nat) (p : Int → Bool) : (l.drop d).all p = true ↔ ∀ j, d ≤ j → j < l.length → p (l[j]?.getD 0) = true := by
  rw [List.all_eq_true]
  constructor
  · intro h j h1 h2
    rw [List.getElem?_eq_getElem h2]
    refine h _ ?_
    rw [List.mem_iff_getElem]
    exact ⟨j - d, by rw [List.length_drop]; omega, by rw [List.getElem_drop]; congr 1; omega⟩
  · intro h x hx
    rw [List.mem_iff_getElem] at hx
    obtain ⟨j, hj, rfl⟩ := hx
    rw [List.length_drop] at hj
    have := h (d + j) (by omega) (by omega)
    rw [List.getElem?_eq_getElem (by omega)] at this
    rw [List.getElem_drop]
    exact this
theorem last_miss {s : ByteArray} {n : Nat} {c : Int} (k : Nat) (h1 : s.size - n ≤ k) (h2 : k < s.size) (h : ((s[k].toNat : Int)) ≠ c) : Bd.lastAll (Utf.nums s) n c = false := by
  unfold Bd.lastAll
  rw [Bool.eq_false_iff, Ne, drop_all]
  intro ha
  have := ha k (by rw [Utf.nums_length]; exact h1) (by rw [Utf.nums_length]; exact h2)
  rw [Utf.nums_at s k h2, decide_eq_true_eq] at this
  exact h this
theorem last_all {s : ByteArray} {n : Nat} {c : Int} (hn : n ≤ s.size) (h : ∀ k, (hk : k < s.size) → s.size - n ≤ k → ((s[k].toNat : Int)) = c) : Bd.lastAll (Utf.nums s) n c = true := by
  unfold Bd.lastAll
  rw [drop_all]
  intro j h1 h2
  rw [Utf.nums_length] at h1 h2
  rw [Utf.nums_at s j h2, decide_eq_true_eq]
  exact h j h2 h1
set_option maxRecDepth 100000 in
set_option maxHeartbeats 2000000 in
theorem all_any (s : ByteArray) (hs : s.size ≤ 140737488351232) (n : Nat) (hn : n ≤ s.size) (c : Int) (w : World) :
    Calls Try.prog 41 #[.string s, .int .i64 n, .int .u8 c] w fun e w' => e = .returned (.bool (Bd.lastAll (Utf.nums s) n c)) ∧ w = w' := by
  have hsub : (s.size : Int) - (n : Int) = ((s.size - n : Nat) : Int) := by omega
  go_enter Try.func41, Try.ntmps41
  go_wp2
  go_loop [7] (fun I => ∃ k : Nat, k ≤ n ∧ I = .int .i64 ((s.size - n + k : Nat) : Int) ∧ Hid (∀ j, (hj : j < s.size) → s.size - n ≤ j → j < s.size - n + k → ((s[j].toNat : Int)) = c)) (fun I => s.size - (intOf I).toNat)
  case atStart => exact ⟨0, Nat.zero_le _, rfl, Lib.hid (fun j hj h1 h2 => by omega)⟩
  case round =>
    obtain ⟨k, hk, rfl, HP⟩ := hrel
    obtain ⟨x, hx⟩ : ∃ x, s.size - n + k = x := ⟨_, rfl⟩
    rw [hx] at HP ⊢
    have HX := Lib.hid hx
    by_cases hlt : k < n
    · have h1 : x < s.size := by omega
      have h1' : (x : Int) < (s.size : Int) := by omega
      have h0' : (0 : Int) ≤ (x : Int) := by omega
      by_cases he : (s[x].toNat : Int) = c
      · have q : ((s[x].toNat : Int) != c) = false := by rw [he]; simp
        have HP2 : Hid (∀ j, (hj : j < s.size) → s.size - n ≤ j → j < x + 1 → ((s[j].toNat : Int)) = c) := Lib.hid (fun j hj h1 h2 => by
          by_cases e : j = x
          · subst e; exact he
          · exact HP.out j hj h1 (by omega))
        clear he hx
        go_wp2
        go_round
        case rel => exact ⟨k + 1, by omega, by have := HX.out; go_num, by rw [show s.size - n + (k + 1) = x + 1 from by have := HX.out; omega]; exact HP2⟩
        case measure => simp [intOf]; omega
      · have q : ((s[x].toNat : Int) != c) = true := by simpa using he
        have HF := Lib.hid (last_miss (n := n) x (by omega) h1 he)
        clear he hx
        go_wp2
        go_ret
        exact ⟨by rw [HF.out]; rfl, rfl⟩
    · have h1 : x = s.size := by omega
      have h1' : ¬ (x : Int) < (s.size : Int) := by omega
      have HF := Lib.hid (last_all (c := c) hn (fun j hj h2 => HP.out j hj h2 (by omega)))
      clear h1 hx
      go_wp2
      go_ret
      exact ⟨by rw [HF.out]; rfl, rfl⟩
end Go.Proofs.Ytfopcgbfbedcjaa
namespace Go.Proofs.Ytfopcgbfbedcjaa
open Go.RowKit
set_option linter.unusedVariables false
/-- The bytes behind k rounds. -/
def fillK (l : List Int) (d : Nat) (c : Int) (k : Nat) : List Int := l.take d ++ List.replicate k c ++ l.drop (d + k)
theorem fillK_zero (l : List Int) (d : Nat) (c : Int) : fillK l d c 0 = l := by simp [fillK]
theorem fillK_len (l : List Int) (d : Nat) (c : Int) (k : Nat) (h : d + k ≤ l.length) : (fillK l d c k).length = l.length := by
  simp [fillK]; omega
theorem fillK_at (l : List Int) (d : Nat) (c : Int) (k j : Nat) (h : d + k ≤ l.length) (hj : j < l.length) : (fillK l d c k)[j]?.getD 0 = if d ≤ j ∧ j < d + k then c else l[j]?.getD 0 := by
  have h1 : (l.take d).length = d := by rw [List.length_take]; omega
  unfold fillK
  by_cases a : j < d
  · rw [if_neg (by omega), List.append_assoc, List.getElem?_append_left (by omega), List.getElem?_take, if_pos a]
  · by_cases b : j < d + k
    · rw [if_pos ⟨by omega, b⟩, List.getElem?_append_left (by simp; omega), List.getElem?_append_right (by omega), h1, List.getElem?_replicate, if_pos (by omega)]; rfl
    · rw [if_neg (by omega), List.getElem?_append_right (by simp; omega), List.getElem?_drop]
      congr 2
      simp
      omega
structure FillSt (l : List Int) (d : Nat) (c : Int) (k : Nat) : Prop where
  same : (fillK l d c (k + 1))[d + k]?.getD 0 = c
  other : ∀ j, j < l.length → j ≠ d + k → (fillK l d c (k + 1))[j]?.getD 0 = (fillK l d c k)[j]?.getD 0
theorem fillSt (l : List Int) (d : Nat) (c : Int) (k : Nat) (h : d + k < l.length) : FillSt l d c k :=
  ⟨by rw [fillK_at l d c (k + 1) (d + k) (by omega) (by omega), if_pos (by omega)], fun j hj hne => by
    rw [fillK_at l d c (k + 1) j (by omega) hj, fillK_at l d c k j (by omega) hj]
    by_cases a : d ≤ j ∧ j < d + k
    · rw [if_pos a, if_pos (by omega)]
    · rw [if_neg a, if_neg (by omega)]⟩
theorem fillK_all (l : List Int) (n : Nat) (c : Int) (h : n ≤ l.length) : fillK l (l.length - n) c n = Bd.fillN l n c := by
  unfold fillK Bd.fillN
  rw [List.drop_eq_nil_of_le (by omega), List.append_nil]
theorem fillN_bytes {l : List Int} (h : Utf.Bytes l) (n : Nat) (c : Int) (h0 : 0 ≤ c) (h1 : c < 256) : Utf.Bytes (Bd.fillN l n c) := by
  intro x hx
  unfold Bd.fillN at hx
  rcases List.mem_append.1 hx with hx | hx
  · exact h x (List.mem_of_mem_take hx)
  · have := (List.mem_replicate.1 hx).2; omega
/-- The row that a string becomes. -/
def RowIs (w : World) (B n : Nat) (l : List Int) : Prop := ∀ j, j < n → w.cell? ⟨B, j, none⟩ = some (.int .u8 (l[j]?.getD 0)) ∧ w.frozen? ⟨B, j, none⟩ = false
theorem rowIs_first (w : World) (s : ByteArray) (C : Nat) (t : TypeId) : RowIs (w.drew.alloc (.cells (bytesRow s C) t ((bytesRow s C).size, (bytesRow s C).size + 1))) w.heap.size s.size (Utf.nums s) := by
  intro j hj
  have hb : (w.drew.alloc (.cells (bytesRow s C) t ((bytesRow s C).size, (bytesRow s C).size + 1))).heap[w.heap.size]? = some (.cells (bytesRow s C) t ((bytesRow s C).size, (bytesRow s C).size + 1)) := heap_alloc_new w.drew _
  have hsz : s.size ≤ (bytesRow s C).size := by unfold bytesRow; simp
  refine ⟨?_, ?_⟩
  · rw [Utf.nums_at s j hj]
    simp only [World.cell?, hb]
    exact bytesRow_at s C j hj
  · simp only [World.frozen?, hb]
    simp
    omega
theorem rowIs_set {w : World} {B n x : Nat} {l m : List Int} {c : Int} (h : RowIs w B n l) (hx : x < n) (h1 : m[x]?.getD 0 = c) (h2 : ∀ j, j < n → j ≠ x → m[j]?.getD 0 = l[j]?.getD 0) : RowIs (w.setCell ⟨B, x, none⟩ (.int .u8 c)) B n m := by
  intro j hj
  refine ⟨?_, by rw [World.frozen?_setCell]; exact (h j hj).2⟩
  by_cases e : j = x
  · subst e; rw [World.cell?_setCell_same (h := (h j hj).1), h1]
  · rw [World.cell?_setCell_other (h := (by intro e2; injection e2 with _ e2; exact e e2.symm)), h2 j hj e]; exact (h j hj).1
set_option maxRecDepth 100000 in
set_option maxHeartbeats 2000000 in
theorem filled_any (s : ByteArray) (hs : s.size ≤ 4) (n : Nat) (hn : n ≤ s.size) (c : Int) (hc : 0 ≤ c) (hc2 : c < 256) (w : World) :
    Calls Try.prog 42 #[.string s, .int .i64 n, .int .u8 c] w fun e w' => e = .returned (.int .i64 (Utf.dec (Bd.fillN (Utf.nums s) n c)).1) ∧ Below w.heap.size w w' := by
  have hcv := fun w1 => run_bytes_of_string (P := Try.prog) (w := w1) 9 45 5 s Try.underlying9 Try.underlying45 Try.underlying5
  have hsub : (s.size : Int) - (n : Int) = ((s.size - n : Nat) : Int) := by omega
  have HR0 := Lib.hid (rowIs_first w s (grownCap w s.size 0 5) 5)
  have HB0 := Lib.hid (((below_drewN (Below.refl w.heap.size w) 1)).alloc (Nat.le_refl _) (.cells (bytesRow s (grownCap w s.size 0 5)) 5 ((bytesRow s (grownCap w s.size 0 5)).size, (bytesRow s (grownCap w s.size 0 5)).size + 1)))
  have hlt0 : w.heap.size < (w.drew.alloc (.cells (bytesRow s (grownCap w s.size 0 5)) 5 ((bytesRow s (grownCap w s.size 0 5)).size, (bytesRow s (grownCap w s.size 0 5)).size + 1))).heap.size := by simp
  obtain ⟨C, hC⟩ : ∃ C, grownCap w s.size 0 5 = C := ⟨_, rfl⟩
  rw [hC] at HR0 HB0 hlt0
  have hnl := Utf.nums_length s
  obtain ⟨l, hl⟩ : ∃ l, Utf.nums s = l := ⟨_, rfl⟩
  have hbl := Utf.nums_bytes s
  rw [hl] at HR0 hnl hbl ⊢
  have HNL := Lib.hid hnl
  have HBL := Lib.hid hbl
  clear hl hbl hnl
  have hnf : fillK l (s.size - n) c n = Bd.fillN l n c := by have := fillK_all l n c (by rw [HNL.out]; exact hn); rwa [HNL.out] at this
  have hlen := fillK_len l (s.size - n) c n (by rw [HNL.out]; omega)
  have hby := fillN_bytes HBL.out n c hc hc2
  rw [hnf] at hlen
  obtain ⟨xs, hxs⟩ : ∃ xs, Bd.fillN l n c = xs := ⟨_, rfl⟩
  rw [hxs] at hlen hby hnf ⊢
  rw [HNL.out] at hlen
  have HLEN := Lib.hid hlen
  have HBY := Lib.hid hby
  have HNF := Lib.hid hnf
  clear hlen hby hnf hxs
  go_enter Try.func42, Try.ntmps42
  go_wp2
  clear hcv hC
  go_loopw [8] (fun I wr => ∃ k : Nat, k ≤ n ∧ I = .int .i64 ((s.size - n + k : Nat) : Int) ∧ Hid (RowIs wr w.heap.size s.size (fillK l (s.size - n) c k)) ∧ Hid (Below w.heap.size w wr)) (fun I _ => s.size - (intOf I).toNat)
  case atStart => exact ⟨0, Nat.zero_le _, rfl, by rw [fillK_zero]; exact HR0, HB0⟩
  case round =>
    obtain ⟨k, hk, rfl, HP, HB⟩ := hrel
    obtain ⟨x, hx⟩ : ∃ x, s.size - n + k = x := ⟨_, rfl⟩
    rw [hx]
    have HX := Lib.hid hx
    by_cases hlt : k < n
    · have h1 : x < s.size := by omega
      have h1' : (x : Int) < (s.size : Int) := by omega
      have h0' : (0 : Int) ≤ (x : Int) := by omega
      obtain ⟨hcell, hfr⟩ := HP.out x h1
      have hst := fillSt l (s.size - n) c k (by rw [HNL.out]; omega)
      have HP2 : Hid (RowIs (wr.setCell ⟨w.heap.size, x, none⟩ (.int .u8 c)) w.heap.size s.size (fillK l (s.size - n) c (k + 1))) := Lib.hid (rowIs_set HP.out h1 (by rw [← hx]; exact hst.same) (fun j hj hne => hst.other j (by rw [HNL.out]; exact hj) (by omega)))
      have HB2 := Lib.hid (HB.out.setCell (p := ⟨w.heap.size, x, none⟩) (Nat.le_refl _) (.int .u8 c))
      clear hst hx
      go_wp2
      go_roundw
      case rel => exact ⟨k + 1, by omega, by have := HX.out; go_num, HP2, HB2⟩
      case measure => simp [intOf]; omega
    · have h1 : x = s.size := by omega
      have h1' : ¬ (x : Int) < (s.size : Int) := by omega
      obtain rfl : k = n := by omega
      have hp := HP.out
      have hlen := HLEN.out
      have hby := HBY.out
      rw [HNF.out] at hp
      have hcv := fun cp => run_convert_bytes_arg (P := Try.prog) (w := wr) 45 5 Try.underlying45 Try.underlying5 w.heap.size 0 s.size cp xs hlen (fun i hi => by rw [Nat.zero_add]; exact (hp i hi).1) 9 Try.underlying9
      have hnx := nums_strOf xs hby
      have hsx := size_strOf xs
      obtain ⟨T, hT⟩ : ∃ T, strOfNums xs = T := ⟨_, rfl⟩
      rw [hT] at hcv hnx hsx
      have HNX := Lib.hid hnx
      have hTs : T.size ≤ 140737488351232 := by rw [hsx, hlen]; omega
      clear h1 hx hlen hby hnx hsx hT hp
      go_wp2_with fail
      refine (refDecode_any T hTs _).mono ?_
      rintro e w1 ⟨rfl, hb⟩
      rw [HNX.out]
      have HE := Lib.hid (HB.out.trans (hb.mono HB.out.size))
      clear hb hcv
      go_wp2
      go_ret
      exact ⟨rfl, HE.out⟩
end Go.Proofs.Ytfopcgbfbedcjaa
