/- The contracts of the reference's Encode and said (burinref01). · The plain mathematics of the reference's decoding: the first length whose reading encodes to the bytes read. · The contract of the reference's Decode (burinref01). · The reference's bracket (burinref07): a number. · The reference's bracket (burinref07): an item. -/
import Derived.Test.YtmdpchiiamgnnaaGreatDoorGp5
import Derived.Test.YtmdpchiiamgnnaaGreatDoorGp1
import Derived.Test.YtmdpchiiamgnnaaGreatDoorGp27
import Derived.Test.YtmdpchiiamgnnaaGreatDoorGp6
import Derived.Test.YtmdpchiiamgnnaaGreatDoorGp15
import Derived.Test.YtmdpchiiamgnnaaGreatDoorGp12
namespace Go.Proofs.YtmdpchiiamgnnaaGreatDoor
open Go.RowKit
set_option linter.unusedVariables false
theorem convRow (xs : List Int) (n : Nat) (C : Array Value) (T : TypeId) (hl : xs.length = n) (hC : ∀ i, i < n → C[i]? = some (.int .u8 (xs.getD i 0))) (w1 : World) :
    (convert 57 9 (.slice (some ⟨w1.heap.size, 0, none⟩) n n)).run Tryz.prog (w1.alloc (.cells C T)) = .ok (.string (strOfNums xs)) (w1.alloc (.cells C T)) := by
  refine run_convert_bytes_arg _ 57 5 Tryz.underlying57 Tryz.underlying5 w1.heap.size 0 n n xs hl ?_ 9 Tryz.underlying9
  intro i hi
  rw [Nat.zero_add, World.cell?_alloc_mark]
  exact hC i hi
set_option maxRecDepth 100000 in
set_option maxHeartbeats 400000 in
theorem refEnc1 (r : Int) (hw : Utf.width r = 1) (h1 : 0 ≤ r) (h2 : r ≤ 127) (w : World) : Calls Tryz.prog 116 #[.int .i64 r] w fun e w' =>
    e = .returned (.tuple #[.string (strOfNums [r]), .int .i64 0]) ∧ Below w.heap.size w w' := by
  have HW := Lib.hid hw
  clear hw
  have hcv := fun T w1 => convRow [r] 1 #[.int .u8 (r)] T rfl (by intro i hi; rcases (by omega : i = 0) with rfl <;> rfl) w1
  go_enter Tryz.func116, Tryz.ntmps116
  go_wp2_with (go_at_call 156; refine (refWidth_any _ _).mono ?_; rintro e w' ⟨rfl, rfl⟩; rw [HW.out])
  go_ret2
  exact ⟨rfl, (Below.refl _ _).alloc (Nat.le_refl _) _⟩
set_option maxRecDepth 100000 in
set_option maxHeartbeats 400000 in
theorem refEnc2 (r : Int) (hw : Utf.width r = 2) (h1 : 128 ≤ r) (h2 : r ≤ 2047) (w : World) : Calls Tryz.prog 116 #[.int .i64 r] w fun e w' =>
    e = .returned (.tuple #[.string (strOfNums [192 + r / 64, 128 + r % 64]), .int .i64 0]) ∧ Below w.heap.size w w' := by
  have HW := Lib.hid hw
  clear hw
  have hcv := fun T w1 => convRow [192 + r / 64, 128 + r % 64] 2 #[.int .u8 (192 + r / 64), .int .u8 (128 + r % 64)] T rfl (by intro i hi; rcases (by omega : i = 0 ∨ i = 1) with rfl | rfl <;> rfl) w1
  go_enter Tryz.func116, Tryz.ntmps116
  go_wp2_with (go_at_call 156; refine (refWidth_any _ _).mono ?_; rintro e w' ⟨rfl, rfl⟩; rw [HW.out])
  go_ret2
  exact ⟨rfl, (Below.refl _ _).alloc (Nat.le_refl _) _⟩
set_option maxRecDepth 100000 in
set_option maxHeartbeats 400000 in
theorem refEnc3 (r : Int) (hw : Utf.width r = 3) (h1 : 2048 ≤ r) (h2 : r ≤ 65535) (w : World) : Calls Tryz.prog 116 #[.int .i64 r] w fun e w' =>
    e = .returned (.tuple #[.string (strOfNums [224 + r / 4096, 128 + r / 64 % 64, 128 + r % 64]), .int .i64 0]) ∧ Below w.heap.size w w' := by
  have HW := Lib.hid hw
  clear hw
  have hcv := fun T w1 => convRow [224 + r / 4096, 128 + r / 64 % 64, 128 + r % 64] 3 #[.int .u8 (224 + r / 4096), .int .u8 (128 + r / 64 % 64), .int .u8 (128 + r % 64)] T rfl (by intro i hi; rcases (by omega : i = 0 ∨ i = 1 ∨ i = 2) with rfl | rfl | rfl <;> rfl) w1
  go_enter Tryz.func116, Tryz.ntmps116
  go_wp2_with (go_at_call 156; refine (refWidth_any _ _).mono ?_; rintro e w' ⟨rfl, rfl⟩; rw [HW.out])
  go_ret2
  exact ⟨rfl, (Below.refl _ _).alloc (Nat.le_refl _) _⟩
set_option maxRecDepth 100000 in
set_option maxHeartbeats 400000 in
theorem refEnc4 (r : Int) (hw : Utf.width r = 4) (h1 : 65536 ≤ r) (h2 : r ≤ 1114111) (w : World) : Calls Tryz.prog 116 #[.int .i64 r] w fun e w' =>
    e = .returned (.tuple #[.string (strOfNums [240 + r / 262144, 128 + r / 4096 % 64, 128 + r / 64 % 64, 128 + r % 64]), .int .i64 0]) ∧ Below w.heap.size w w' := by
  have HW := Lib.hid hw
  clear hw
  have hcv := fun T w1 => convRow [240 + r / 262144, 128 + r / 4096 % 64, 128 + r / 64 % 64, 128 + r % 64] 4 #[.int .u8 (240 + r / 262144), .int .u8 (128 + r / 4096 % 64), .int .u8 (128 + r / 64 % 64), .int .u8 (128 + r % 64)] T rfl (by intro i hi; rcases (by omega : i = 0 ∨ i = 1 ∨ i = 2 ∨ i = 3) with rfl | rfl | rfl | rfl <;> rfl) w1
  go_enter Tryz.func116, Tryz.ntmps116
  go_wp2_with (go_at_call 156; refine (refWidth_any _ _).mono ?_; rintro e w' ⟨rfl, rfl⟩; rw [HW.out])
  go_ret2
  exact ⟨rfl, (Below.refl _ _).alloc (Nat.le_refl _) _⟩
theorem refEncode_yes (r : Int) (h : Utf.width r ≠ 0) (w : World) : Calls Tryz.prog 116 #[.int .i64 r] w fun e w' =>
    e = .returned (.tuple #[.string (strOfNums (Utf.encN r)), .int .i64 0]) ∧ Below w.heap.size w w' := by
  rcases Utf.width_cases r with ⟨q, _⟩ | ⟨q, h1, h2⟩ | ⟨q, h1, h2⟩ | ⟨q, h1, h2, h3⟩ | ⟨q, h1, h2⟩
  · exact absurd q h
  · have e : Utf.encN r = [r] := by simp [Utf.encN, q]
    rw [e]; exact refEnc1 r q h1 h2 w
  · have e : Utf.encN r = [192 + r / 64, 128 + r % 64] := by simp [Utf.encN, q]
    rw [e]; exact refEnc2 r q h1 h2 w
  · have e : Utf.encN r = [224 + r / 4096, 128 + r / 64 % 64, 128 + r % 64] := by simp [Utf.encN, q]
    rw [e]; exact refEnc3 r q h1 h2 w
  · have e : Utf.encN r = [240 + r / 262144, 128 + r / 4096 % 64, 128 + r / 64 % 64, 128 + r % 64] := by simp [Utf.encN, q]
    rw [e]; exact refEnc4 r q h1 h2 w
set_option maxRecDepth 100000 in
theorem refEncode_no (r : Int) (h : Utf.width r = 0) (w : World) : Calls Tryz.prog 116 #[.int .i64 r] w fun e w' =>
    e = .returned (.tuple #[.string ByteArray.empty, .int .i64 1]) ∧ w = w' := by
  have HW := Lib.hid h
  clear h
  go_enter Tryz.func116, Tryz.ntmps116
  go_wp2_with (go_at_call 156; refine (refWidth_any _ _).mono ?_; rintro e w' ⟨rfl, rfl⟩; rw [HW.out])
  go_ret2
  exact ⟨rfl, rfl⟩
set_option maxRecDepth 100000 in
set_option maxHeartbeats 400000 in
theorem said1 (s : ByteArray) (hs : s.size ≤ 140737488351232) (hn : 1 ≤ s.size) (w : World) : Calls Tryz.prog 115 #[.string s, .int .i64 1] w fun e w' =>
    e = .returned (.int .i64 ((s[0].toNat : Int))) ∧ ∃ k, w' = w.drewN k := by
  have i0 : (0 : Int) < (s.size : Int) := by omega
  have j0 : 0 < s.size := by omega
  have b0 : s[0].toNat < 256 := UInt8.toNat_lt _
  go_enter Tryz.func115, Tryz.ntmps115
  go_wp2
  go_ret
  exact ⟨ret_int rfl, 0, rfl⟩
set_option maxRecDepth 100000 in
set_option maxHeartbeats 400000 in
theorem said2 (s : ByteArray) (hs : s.size ≤ 140737488351232) (hn : 2 ≤ s.size) (w : World) : Calls Tryz.prog 115 #[.string s, .int .i64 2] w fun e w' =>
    e = .returned (.int .i64 ((s[0].toNat : Int) % 32 * 64 + (s[1].toNat : Int) % 64)) ∧ ∃ k, w' = w.drewN k := by
  have i0 : (0 : Int) < (s.size : Int) := by omega
  have j0 : 0 < s.size := by omega
  have b0 : s[0].toNat < 256 := UInt8.toNat_lt _
  have i1 : (1 : Int) < (s.size : Int) := by omega
  have j1 : 1 < s.size := by omega
  have b1 : s[1].toNat < 256 := UInt8.toNat_lt _
  go_enter Tryz.func115, Tryz.ntmps115
  go_wp2
  go_quiet (fail)
  go_wp2
  go_ret
  exact ⟨ret_int rfl, _, rfl⟩
set_option maxRecDepth 100000 in
set_option maxHeartbeats 400000 in
theorem said3 (s : ByteArray) (hs : s.size ≤ 140737488351232) (hn : 3 ≤ s.size) (w : World) : Calls Tryz.prog 115 #[.string s, .int .i64 3] w fun e w' =>
    e = .returned (.int .i64 ((s[0].toNat : Int) % 16 * 4096 + (s[1].toNat : Int) % 64 * 64 + (s[2].toNat : Int) % 64)) ∧ ∃ k, w' = w.drewN k := by
  have i0 : (0 : Int) < (s.size : Int) := by omega
  have j0 : 0 < s.size := by omega
  have b0 : s[0].toNat < 256 := UInt8.toNat_lt _
  have i1 : (1 : Int) < (s.size : Int) := by omega
  have j1 : 1 < s.size := by omega
  have b1 : s[1].toNat < 256 := UInt8.toNat_lt _
  have i2 : (2 : Int) < (s.size : Int) := by omega
  have j2 : 2 < s.size := by omega
  have b2 : s[2].toNat < 256 := UInt8.toNat_lt _
  go_enter Tryz.func115, Tryz.ntmps115
  go_wp2
  go_quiet (fail)
  go_wp2
  go_ret
  exact ⟨ret_int rfl, _, rfl⟩
set_option maxRecDepth 100000 in
set_option maxHeartbeats 400000 in
theorem said4 (s : ByteArray) (hs : s.size ≤ 140737488351232) (hn : 4 ≤ s.size) (w : World) : Calls Tryz.prog 115 #[.string s, .int .i64 4] w fun e w' =>
    e = .returned (.int .i64 ((s[0].toNat : Int) % 8 * 262144 + (s[1].toNat : Int) % 64 * 4096 + (s[2].toNat : Int) % 64 * 64 + (s[3].toNat : Int) % 64)) ∧ ∃ k, w' = w.drewN k := by
  have i0 : (0 : Int) < (s.size : Int) := by omega
  have j0 : 0 < s.size := by omega
  have b0 : s[0].toNat < 256 := UInt8.toNat_lt _
  have i1 : (1 : Int) < (s.size : Int) := by omega
  have j1 : 1 < s.size := by omega
  have b1 : s[1].toNat < 256 := UInt8.toNat_lt _
  have i2 : (2 : Int) < (s.size : Int) := by omega
  have j2 : 2 < s.size := by omega
  have b2 : s[2].toNat < 256 := UInt8.toNat_lt _
  have i3 : (3 : Int) < (s.size : Int) := by omega
  have j3 : 3 < s.size := by omega
  have b3 : s[3].toNat < 256 := UInt8.toNat_lt _
  go_enter Tryz.func115, Tryz.ntmps115
  go_wp2
  go_quiet (fail)
  go_wp2
  go_ret
  exact ⟨ret_int rfl, _, rfl⟩
end Go.Proofs.YtmdpchiiamgnnaaGreatDoor
namespace Go.Proofs.YtmdpchiiamgnnaaGreatDoor.Utf
def saidN (l : List Int) : Nat → Int
  | 1 => l[0]?.getD 0
  | 2 => l[0]?.getD 0 % 32 * 64 + l[1]?.getD 0 % 64
  | 3 => l[0]?.getD 0 % 16 * 4096 + l[1]?.getD 0 % 64 * 64 + l[2]?.getD 0 % 64
  | 4 => l[0]?.getD 0 % 8 * 262144 + l[1]?.getD 0 % 64 * 4096 + l[2]?.getD 0 % 64 * 64 + l[3]?.getD 0 % 64
  | _ => 0
def Hit (l : List Int) (k : Nat) : Prop := width (saidN l k) ≠ 0 ∧ encN (saidN l k) = l.take k
theorem said_enc (r : Int) (h : width r ≠ 0) (t : List Int) : saidN (encN r ++ t) (width r).toNat = r := by
  rcases width_cases r with ⟨w, _⟩ | ⟨w, h1, h2⟩ | ⟨w, h1, h2⟩ | ⟨w, h1, h2, h3⟩ | ⟨w, h1, h2⟩
  · exact absurd w h
  · rw [w]
    have e : encN r ++ t = r :: t := by simp [encN, w]
    rw [e]; rfl
  · rw [w]
    have e : encN r ++ t = (192 + r / 64) :: (128 + r % 64) :: t := by simp [encN, w]
    rw [e]; show (192 + r / 64) % 32 * 64 + (128 + r % 64) % 64 = r; omega
  · rw [w]
    have e : encN r ++ t = (224 + r / 4096) :: (128 + r / 64 % 64) :: (128 + r % 64) :: t := by simp [encN, w]
    rw [e]; show (224 + r / 4096) % 16 * 4096 + (128 + r / 64 % 64) % 64 * 64 + (128 + r % 64) % 64 = r; omega
  · rw [w]
    have e : encN r ++ t = (240 + r / 262144) :: (128 + r / 4096 % 64) :: (128 + r / 64 % 64) :: (128 + r % 64) :: t := by simp [encN, w]
    rw [e]; show (240 + r / 262144) % 8 * 262144 + (128 + r / 4096 % 64) % 64 * 4096 + (128 + r / 64 % 64) % 64 * 64 + (128 + r % 64) % 64 = r; omega
theorem hit_dec (l : List Int) (k : Nat) (hk : k ≤ l.length) (h : Hit l k) : dec l = (saidN l k, (k : Int)) := by
  have e := dec_enc _ h.1 (l.drop k)
  have hl := encN_length (saidN l k)
  rw [h.2, List.take_append_drop] at e
  rw [h.2, List.length_take, Nat.min_eq_left hk] at hl
  rw [e, hl]
theorem miss_dec (l : List Int) (hb : Bytes l) (hl : l ≠ []) (h : ∀ k, 1 ≤ k → k ≤ 4 → k ≤ l.length → ¬ Hit l k) : dec l = (-1, 1) := by
  rcases dec_some l hb with ⟨e, _⟩ | ⟨_, e⟩ | ⟨h1, h2, t, ht⟩
  · exact absurd e hl
  · exact e
  · exfalso
    obtain ⟨r, hr⟩ : ∃ r, (dec l).1 = r := ⟨_, rfl⟩
    rw [hr] at h1 h2 ht
    have hw := width_le r
    have hlen := encN_length r
    have hll := congrArg List.length ht
    rw [List.length_append] at hll
    have hs : saidN l (width r).toNat = r := by
      rw [ht]; exact said_enc r h1 t
    refine h (width r).toNat (by omega) (by omega) (by omega) ⟨by rw [hs]; exact h1, ?_⟩
    rw [hs, ht, List.take_append_of_le_length (by omega), List.take_of_length_le (by omega)]
end Go.Proofs.YtmdpchiiamgnnaaGreatDoor.Utf
namespace Go.Proofs.YtmdpchiiamgnnaaGreatDoor
open Go.RowKit
set_option linter.unusedVariables false
theorem said_any (s : ByteArray) (hs : s.size ≤ 140737488351232) (k : Nat) (h1 : 1 ≤ k) (h4 : k ≤ 4) (hk : k ≤ s.size) (w : World) : Calls Tryz.prog 115 #[.string s, .int .i64 k] w fun e w' =>
    e = .returned (.int .i64 (Utf.saidN (Utf.nums s) k)) ∧ ∃ j, w' = w.drewN j := by
  rcases (by omega : k = 1 ∨ k = 2 ∨ k = 3 ∨ k = 4) with rfl | rfl | rfl | rfl
  · refine (said1 s hs hk w).mono fun e w' ⟨h, h'⟩ => ⟨h.trans (ret_int ?_), h'⟩
    show _ = (Utf.nums s)[0]?.getD 0
    rw [Utf.nums_at s 0 (by omega)]
  · refine (said2 s hs hk w).mono fun e w' ⟨h, h'⟩ => ⟨h.trans (ret_int ?_), h'⟩
    show _ = (Utf.nums s)[0]?.getD 0 % 32 * 64 + (Utf.nums s)[1]?.getD 0 % 64
    rw [Utf.nums_at s 0 (by omega), Utf.nums_at s 1 (by omega)]
    rfl
  · refine (said3 s hs hk w).mono fun e w' ⟨h, h'⟩ => ⟨h.trans (ret_int ?_), h'⟩
    show _ = (Utf.nums s)[0]?.getD 0 % 16 * 4096 + (Utf.nums s)[1]?.getD 0 % 64 * 64 + (Utf.nums s)[2]?.getD 0 % 64
    rw [Utf.nums_at s 0 (by omega), Utf.nums_at s 1 (by omega), Utf.nums_at s 2 (by omega)]
    rfl
  · refine (said4 s hs hk w).mono fun e w' ⟨h, h'⟩ => ⟨h.trans (ret_int ?_), h'⟩
    show _ = (Utf.nums s)[0]?.getD 0 % 8 * 262144 + (Utf.nums s)[1]?.getD 0 % 64 * 4096 + (Utf.nums s)[2]?.getD 0 % 64 * 64 + (Utf.nums s)[3]?.getD 0 % 64
    rw [Utf.nums_at s 0 (by omega), Utf.nums_at s 1 (by omega), Utf.nums_at s 2 (by omega), Utf.nums_at s 3 (by omega)]
    rfl
theorem toList_beq {s t : ByteArray} : (s.toList == t.toList) = true ↔ s = t := by
  rw [beq_iff_eq]
  constructor
  · intro e
    apply ByteArray.ext
    rw [ByteArray.toList_eq, ByteArray.toList_eq] at e
    exact Array.toList_inj.1 e
  · intro e; rw [e]
theorem strOf_take {s : ByteArray} {xs : List Int} (h : Utf.Bytes xs) (k : Nat) : strOfNums xs = s.extract 0 k ↔ xs = (Utf.nums s).take k := by
  constructor
  · intro e
    have := congrArg Utf.nums e
    rwa [nums_strOf _ h, Utf.nums_extract, List.drop_zero, Nat.sub_zero] at this
  · intro e
    apply nums_inj
    rw [nums_strOf _ h, Utf.nums_extract, List.drop_zero, Nat.sub_zero, e]
theorem hit_true {s : ByteArray} {k : Nat} (h : Utf.Hit (Utf.nums s) k) : strOfNums (Utf.encN (Utf.saidN (Utf.nums s) k)) = s.extract 0 k :=
  (strOf_take (Utf.encN_bytes _) k).2 h.2
theorem hit_false {s : ByteArray} {k : Nat} (hw : Utf.width (Utf.saidN (Utf.nums s) k) ≠ 0) (h : ¬ Utf.Hit (Utf.nums s) k) : ((strOfNums (Utf.encN (Utf.saidN (Utf.nums s) k))).toList == (s.extract 0 k).toList) = false := by
  rw [Bool.eq_false_iff]
  intro e
  exact h ⟨hw, (strOf_take (Utf.encN_bytes _) k).1 (toList_beq.1 e)⟩

theorem miss_succ {s : ByteArray} {k : Nat} (hm : ∀ j, 1 ≤ j → j < k → j ≤ s.size → ¬ Utf.Hit (Utf.nums s) j) (hn : ¬ Utf.Hit (Utf.nums s) k) :
    ∀ j, 1 ≤ j → j < k + 1 → j ≤ s.size → ¬ Utf.Hit (Utf.nums s) j := by
  intro j h h' h''
  by_cases e : j = k
  · subst e; exact hn
  · exact hm j h (by omega) h''
set_option maxRecDepth 100000 in
set_option maxHeartbeats 1000000 in
theorem refDecode_any (s : ByteArray) (hs : s.size ≤ 140737488351232) (w : World) : Calls Tryz.prog 87 #[.string s] w fun e w' =>
    e = .returned (.tuple #[.int .i64 (Utf.dec (Utf.nums s)).1, .int .i64 (Utf.dec (Utf.nums s)).2]) ∧ Below w.heap.size w w' := by
  by_cases h0 : 0 < s.size
  · obtain ⟨hne, hne2⟩ := toList_ne h0
    have hnil : Utf.nums s ≠ [] := by rw [Ne, Utf.nums_nil]; omega
    have HI := Lib.hid hnil
    clear hnil
    go_enter Tryz.func87, Tryz.ntmps87
    go_wp2
    go_loopw [2, 3, 4, 5, 6, 7] (fun r2 r3 N x t e wr => ∃ k : Nat, 1 ≤ k ∧ k ≤ 5 ∧ N = .int .i64 k ∧ Hid (∀ j, 1 ≤ j → j < k → j ≤ s.size → ¬ Utf.Hit (Utf.nums s) j) ∧ Below w.heap.size w wr) (fun _ _ N _ _ _ _ => 5 - (intOf N).toNat)
    case atStart => exact ⟨1, by omega, by omega, rfl, Lib.hid (fun j h h' => by omega), Below.refl _ _⟩
    case round =>
      obtain ⟨k, hk1, hk5, rfl, HM, hB⟩ := hrel
      by_cases hin : k ≤ 4 ∧ k ≤ s.size
      · obtain ⟨hk4, hks⟩ := hin
        by_cases hh : Utf.Hit (Utf.nums s) k
        · have HD := Lib.hid (Utf.hit_dec (Utf.nums s) k (by rw [Utf.nums_length]; exact hks) hh)
          have HW := Lib.hid hh.1
          have HT := Lib.hid (hit_true hh)
          clear hh
          go_wp2_with fail
          refine (said_any s hs k hk1 hk4 hks _).mono ?_
          rintro e wa ⟨rfl, nq, rfl⟩
          go_wp2_with fail
          refine (refEncode_yes _ HW.out _).mono ?_
          rintro e wb ⟨rfl, hbb⟩
          rw [HT.out]
          go_wp2
          go_ret2
          rw [HD.out]
          exact ⟨rfl, (hB.trans (below_drewS _ _ _)).trans (hbb.mono hB.size)⟩
        · have HN := Lib.hid hh
          by_cases hw : Utf.width (Utf.saidN (Utf.nums s) k) = 0
          · have HW := Lib.hid hw
            clear hh hw
            go_wp2_with fail
            refine (said_any s hs k hk1 hk4 hks _).mono ?_
            rintro e wa ⟨rfl, nq, rfl⟩
            go_wp2_with fail
            refine (refEncode_no _ HW.out _).mono ?_
            rintro e wb ⟨rfl, rfl⟩
            go_wp2
            go_roundw
            case rel => exact ⟨k + 1, by omega, by omega, by go_num, Lib.hid (miss_succ HM.out HN.out), hB.trans (below_drewS _ _ _)⟩
            case measure => simp [intOf]; omega
          · have HW := Lib.hid hw
            have hf := hit_false hw hh
            clear hh hw
            go_wp2_with fail
            refine (said_any s hs k hk1 hk4 hks _).mono ?_
            rintro e wa ⟨rfl, nq, rfl⟩
            go_wp2_with fail
            refine (refEncode_yes _ HW.out _).mono ?_
            rintro e wb ⟨rfl, hbb⟩
            go_wp2
            go_roundw
            case rel => exact ⟨k + 1, by omega, by omega, by go_num, Lib.hid (miss_succ HM.out HN.out), (hB.trans (below_drewS _ _ _)).trans (hbb.mono hB.size)⟩
            case measure => simp [intOf]; omega
      · have HD := Lib.hid (Utf.miss_dec (Utf.nums s) (Utf.nums_bytes s) HI.out (fun j h1 h4 hj => HM.out j h1 (by rw [Utf.nums_length] at hj; omega) (by rw [Utf.nums_length] at hj; exact hj)))
        by_cases hk4 : k ≤ 4
        · have hks : ¬ k ≤ s.size := fun h => hin ⟨hk4, h⟩
          clear hin
          have hks' : s.size < k := by omega
          go_wp2
          go_ret2
          rw [HD.out]
          exact ⟨rfl, hB⟩
        · clear hin
          go_wp2
          go_ret2
          rw [HD.out]
          exact ⟨rfl, hB⟩
  · obtain ⟨hne, hne2⟩ := toList_e (s := s) (by omega)
    have HD : Utf.dec (Utf.nums s) = (-1, 0) := by rw [(Utf.nums_nil s).2 (by omega)]; rfl
    have HD := Lib.hid HD
    go_enter Tryz.func87, Tryz.ntmps87
    go_wp2
    go_ret2
    rw [HD.out]
    exact ⟨rfl, Below.refl _ _⟩
end Go.Proofs.YtmdpchiiamgnnaaGreatDoor
namespace Go.Proofs.YtmdpchiiamgnnaaGreatDoor
open Go.RowKit
set_option linter.unusedVariables false
set_option maxRecDepth 100000 in
set_option maxHeartbeats 4000000 in
theorem rOne_any (W : World) (s : ByteArray) (hs : s.size ≤ 100000) (h0 : 0 < s.size) : Calls Tryz.prog 49 #[.string s] W fun e w' =>
    e = .returned (.tuple #[.int .i64 (Br.one (Utf.nums s)).1, .int .i64 (Br.one (Utf.nums s)).2.1, .int .i64 (Br.one (Utf.nums s)).2.2]) ∧ Below W.heap.size W w' := by
  obtain ⟨hne, hne2⟩ := toList_ne h0
  have h0i : (0 : Int) < (s.size : Int) := by omega
  have hb : s[0].toNat < 256 := UInt8.toNat_lt _
  have hat : (Utf.nums s)[0]?.getD 0 = (s[0].toNat : Int) := Utf.nums_at s 0 h0
  have HN := Lib.hid (rNumber_any W s (by omega))
  have HD := Lib.hid (refDecode_any s (by omega) W)
  have hone : Br.one (Utf.nums s) = (if (s[0].toNat : Int) = 92 then Br.num (Utf.nums s) else if (Utf.dec (Utf.nums s)).1 < 0 then (0, 0, 3) else ((Utf.dec (Utf.nums s)).1, (Utf.dec (Utf.nums s)).2, 0)) := by
    unfold Br.one; rw [hat]
  obtain ⟨R, hR⟩ : ∃ R, Br.one (Utf.nums s) = R := ⟨_, rfl⟩
  rw [hR] at hone ⊢
  clear hR hat
  by_cases c0 : (s[0].toNat : Int) = 92
  · rw [if_pos c0] at hone
    obtain ⟨N, hN⟩ : ∃ N, Br.num (Utf.nums s) = N := ⟨_, rfl⟩
    rw [hN] at HN hone
    subst hone
    have h4 : ((s[0].toNat : Int) == 92) = true := by simp [c0]
    clear c0 hN HD
    go_enter Tryz.func49, Tryz.ntmps49
    go_wp2_with fail
    refine HN.out.mono ?_
    rintro e w' ⟨rfl, rfl⟩
    go_wp2
    go_ret3
    exact ⟨rfl, Below.refl _ _⟩
  · rw [if_neg c0] at hone
    have h4 : ((s[0].toNat : Int) == 92) = false := by simpa using c0
    obtain ⟨⟨r, n⟩, hD⟩ : ∃ N, Utf.dec (Utf.nums s) = N := ⟨_, rfl⟩
    rw [hD] at HD hone
    dsimp only at HD hone
    clear c0 hD HN
    by_cases hr : r < 0
    · rw [if_pos hr] at hone
      have HR := Lib.hid hone
      clear hone
      go_enter Tryz.func49, Tryz.ntmps49
      go_wp2_with fail
      refine HD.out.mono ?_
      rintro e w' ⟨rfl, hb⟩
      have HB := Lib.hid hb
      clear hb
      go_wp2
      go_ret3
      exact ⟨by rw [HR.out]; rfl, HB.out⟩
    · rw [if_neg hr] at hone
      have HR := Lib.hid hone
      clear hone
      go_enter Tryz.func49, Tryz.ntmps49
      go_wp2_with fail
      refine HD.out.mono ?_
      rintro e w' ⟨rfl, hb⟩
      have HB := Lib.hid hb
      clear hb
      go_wp2
      go_ret3
      exact ⟨by rw [HR.out]; rfl, HB.out⟩
end Go.Proofs.YtmdpchiiamgnnaaGreatDoor
namespace Go.Proofs.YtmdpchiiamgnnaaGreatDoor
open Go.RowKit
set_option linter.unusedVariables false
/-- What the reference's item hands back. -/
def RItPost (W : World) (X : Br.Res Br.It) (a : Nat) (e : Ending) (w' : World) : Prop :=
  Below W.heap.size W w' ∧ ((∃ o c, X = .bad o c ∧ e = .returned (.tuple #[.slice none 0 0, .int .i64 o, .int .i64 c])) ∨ (∃ x nx v l, X = .ok x nx ∧ e = .returned (.tuple #[v, .int .i64 ((nx : Nat) : Int), .int .i64 0]) ∧ Br.ItIs x l ∧ RRow w' v l))
theorem item_head (s : ByteArray) (a : Nat) (c0 : ¬ (((Utf.nums s).drop a)[0]? = some 91 ∧ ((Utf.nums s).drop a)[1]? = some 58)) :
    (¬ (1 : Int) < ((s.size - a : Nat) : Int)) ∨ ((1 : Int) < ((s.size - a : Nat) : Int) ∧ 0 < s.size - a ∧ ∃ h : 0 < (s.extract a s.size).size, ((((s.extract a s.size)[0]'h).toNat : Int) == 91) = false) ∨
    ((1 : Int) < ((s.size - a : Nat) : Int) ∧ 0 < s.size - a ∧ 1 < s.size - a ∧ ∃ h : 1 < (s.extract a s.size).size, ((((s.extract a s.size)[0]'(Nat.lt_trans Nat.zero_lt_one h)).toNat : Int) == 91) = true ∧ ((((s.extract a s.size)[1]'h).toNat : Int) == 58) = false) := by
  rcases Nat.lt_or_ge 1 (s.size - a) with h1 | h1
  · have hm : (s.extract a s.size).size = s.size - a := by rw [ByteArray.size_extract]; omega
    obtain ⟨r, hr⟩ : ∃ r, s.extract a s.size = r := ⟨_, rfl⟩
    rw [hr] at hm ⊢
    have hd : Utf.nums r = (Utf.nums s).drop a := by rw [← hr]; exact tail_drop s a
    have a0 : ((Utf.nums s).drop a)[0]?.getD 0 = (r[0].toNat : Int) := by rw [← hd]; exact Utf.nums_at r 0 (by omega)
    have a1 : ((Utf.nums s).drop a)[1]?.getD 0 = (r[1].toNat : Int) := by rw [← hd]; exact Utf.nums_at r 1 (by omega)
    have hl : ((Utf.nums s).drop a).length = s.size - a := by rw [← hd, Utf.nums_length, hm]
    rw [List.getElem?_eq_getElem (by omega)] at a0 a1
    simp only [Option.getD_some] at a0 a1
    rw [List.getElem?_eq_getElem (by omega), List.getElem?_eq_getElem (by omega), a0, a1] at c0
    by_cases e : (r[0].toNat : Int) = 91
    · refine .inr (.inr ⟨by omega, by omega, by omega, by omega, by simp [e], ?_⟩)
      rw [beq_eq_false_iff_ne]
      intro e2
      exact c0 ⟨by rw [e], by rw [e2]⟩
    · exact .inr (.inl ⟨by omega, by omega, by omega, by rw [beq_eq_false_iff_ne]; exact e⟩)
  · exact .inl (by omega)
set_option maxRecDepth 100000 in
set_option maxHeartbeats 8000000 in
theorem rItem_set (W : World) (s : ByteArray) (hs : s.size ≤ 100000) (a : Nat) (ha : a < s.size) (c0 : ¬ (((Utf.nums s).drop a)[0]? = some 91 ∧ ((Utf.nums s).drop a)[1]? = some 58)) (hc : (Br.set (s.extract a s.size)).2.2 ≠ 3 ∧ (Br.set (s.extract a s.size)).2.2 ≠ 5) :
    Calls Tryz.prog 27 #[.string s, .int .i64 (a : Int)] W (RItPost W (Br.item s a) a) := by
  obtain ⟨X, hX⟩ : ∃ X, Br.item s a = X := ⟨_, rfl⟩
  rw [hX]
  unfold Br.item at hX
  dsimp only at hX
  rw [if_neg c0] at hX
  have hcase := item_head s a c0
  have hzs : (s.extract a s.size).size = s.size - a := by rw [ByteArray.size_extract]; omega
  have HS := Lib.hid (rSet_any W (s.extract a s.size) (by omega))
  have hsc := Br.set_cases (s.extract a s.size)
  obtain ⟨⟨sx, sn, sc⟩, hsx⟩ : ∃ p, Br.set (s.extract a s.size) = p := ⟨_, rfl⟩
  rw [hsx] at HS hX hsc hc
  rw [hzs] at hsc
  dsimp only at hX hsc hc
  have hai : (a : Int) ≤ (s.size : Int) := by omega
  by_cases k0 : sc = 0
  · subst k0
    obtain ⟨y, hy, _, hn2, hn3⟩ := hsc.resolve_left (by rintro ⟨_, _, h | h | h | h⟩ <;> omega)
    subst hy
    obtain ⟨k, rfl⟩ : ∃ k : Nat, sn = k := ⟨sn.toNat, by omega⟩
    rw [if_pos rfl] at hX
    dsimp only at hX
    have HR := Lib.hid hX.symm
    have hw1 : IntKind.i64.wrap ((a : Int) + (k : Int)) = ((a + k : Nat) : Int) := by rw [IntKind.wrap_i64]; omega
    clear hX hc hsx hsc c0
    rcases hcase with h1 | ⟨h1, hp9, hp0, h2⟩ | ⟨h1, hp9, hp8, hp0, h2, h3⟩
    all_goals
      go_enter Tryz.func27, Tryz.ntmps27
      go_wp2_with fail
      refine HS.out.mono ?_
      rintro e w1 ⟨v, out, rfl, hsi, ho, hb⟩
      have HB := Lib.hid hb
      have HRW := Lib.hid (setIs_row hsi ho)
      have HSI := Lib.hid hsi
      clear hb ho hsi
      go_wp2
      go_ret3
      exact ⟨HB.out, .inr ⟨_, _, v, out, HR.out, by rw [Int.toNat_natCast]; rfl, HSI.out, HRW.out⟩⟩
  · have m0 : (sc == 0) = false := by simpa using k0
    have m3 : (sc != 3) = true := by simpa using hc.1
    have m5 : (sc != 5) = true := by simpa using hc.2
    have HR : Hid (X = .bad a sc) := Lib.hid (by rw [← hX, if_neg k0, if_pos hc])
    clear hX hc hsx hsc c0
    rcases hcase with h1 | ⟨h1, hp9, hp0, h2⟩ | ⟨h1, hp9, hp8, hp0, h2, h3⟩
    all_goals
      go_enter Tryz.func27, Tryz.ntmps27
      go_wp2_with fail
      refine HS.out.mono ?_
      rintro e w1 ⟨v, out, rfl, hsi, ho, hb⟩
      have HB := Lib.hid hb
      clear hb ho hsi
      go_wp2
      go_ret3
      exact ⟨HB.out, .inl ⟨_, _, HR.out, rfl⟩⟩
end Go.Proofs.YtmdpchiiamgnnaaGreatDoor
