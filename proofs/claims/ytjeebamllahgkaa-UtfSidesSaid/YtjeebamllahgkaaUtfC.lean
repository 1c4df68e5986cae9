/- The contracts of utf.spell and utf.Encode. -/
import Derived.Test.YtjeebamllahgkaaUtfB
import Derived.Laws.Bits128
import Derived.Laws.Rows
namespace Go.Proofs.Ytjeebamllahgkaa
open Go.RowKit
theorem i64_and63 (n : Int) : bits .and .i64 n 63 = n % 64 := by
  have h63 : (BitVec.ofInt 64 63).toNat = 2 ^ 6 - 1 := by decide
  have key : (BitVec.ofInt 64 n &&& BitVec.ofInt 64 63).toNat = (n % ((2 ^ 64 : Nat) : Int)).toNat % 2 ^ 6 := by
    rw [BitVec.toNat_and, BitVec.toNat_ofInt, h63, Nat.and_two_pow_sub_one_eq_mod]
  show IntKind.i64.wrap ((BitVec.ofInt 64 n &&& BitVec.ofInt 64 63).toNat : Nat) = n % 64
  rw [key, IntKind.wrap_i64]
  omega
set_option maxRecDepth 100000 in
set_option maxHeartbeats 400000 in
theorem spell1 (r : Int) (h1 : 0 ≤ r) (h2 : r ≤ 127) (w : World) : Calls Try.prog 24 #[.int .i64 r, .int .i64 1] w fun e w' =>
    e = .returned (.agg #[.int .u8 (r), .int .u8 (0), .int .u8 (0), .int .u8 (0)]) ∧ Below w.heap.size w w' := by
  go_enter Try.func24, Try.ntmps24
  go_wp2
  refine wp_loop_rounds 1 ?_
  rw [rounds_succ]
  go_wp2_with (go_at_call 26; refine (mark_any _ _).mono ?_; rintro e w' ⟨rfl, rfl⟩; rw [show Utf.mark 1 = 0 from by decide])
  refine bodyPost_ret (v := .agg #[.int .u8 (r), .int .u8 (0), .int .u8 (0), .int .u8 (0)]) ?_ rfl ⟨rfl, ((Below.refl _ _).alloc (Nat.le_refl _) _).alloc (by simp) _⟩
  simp [results, Try.results24, go_sem]
set_option maxRecDepth 100000 in
set_option maxHeartbeats 400000 in
theorem spell2 (r : Int) (h1 : 128 ≤ r) (h2 : r ≤ 2047) (w : World) : Calls Try.prog 24 #[.int .i64 r, .int .i64 2] w fun e w' =>
    e = .returned (.agg #[.int .u8 (192 + r / 64), .int .u8 (128 + r % 64), .int .u8 (0), .int .u8 (0)]) ∧ Below w.heap.size w w' := by
  have a1 := i64_and63 r
  go_enter Try.func24, Try.ntmps24
  go_wp2
  refine wp_loop_rounds 2 ?_
  rw [rounds_succ]
  go_wp2_with (go_at_call 26; refine (mark_any _ _).mono ?_; rintro e w' ⟨rfl, rfl⟩; rw [show Utf.mark 2 = 192 from by decide])
  rw [rounds_succ]
  go_wp2_with (go_at_call 26; refine (mark_any _ _).mono ?_; rintro e w' ⟨rfl, rfl⟩; rw [show Utf.mark 2 = 192 from by decide])
  refine bodyPost_ret (v := .agg #[.int .u8 (192 + r / 64), .int .u8 (128 + r % 64), .int .u8 (0), .int .u8 (0)]) ?_ rfl ⟨rfl, ((Below.refl _ _).alloc (Nat.le_refl _) _).alloc (by simp) _⟩
  simp [results, Try.results24, go_sem]
set_option maxRecDepth 100000 in
set_option maxHeartbeats 400000 in
theorem spell3 (r : Int) (h1 : 2048 ≤ r) (h2 : r ≤ 65535) (w : World) : Calls Try.prog 24 #[.int .i64 r, .int .i64 3] w fun e w' =>
    e = .returned (.agg #[.int .u8 (224 + r / 64 / 64), .int .u8 (128 + r / 64 % 64), .int .u8 (128 + r % 64), .int .u8 (0)]) ∧ Below w.heap.size w w' := by
  have a1 := i64_and63 r
  have a2 := i64_and63 (r / 64)
  go_enter Try.func24, Try.ntmps24
  go_wp2
  refine wp_loop_rounds 3 ?_
  rw [rounds_succ]
  go_wp2_with (go_at_call 26; refine (mark_any _ _).mono ?_; rintro e w' ⟨rfl, rfl⟩; rw [show Utf.mark 3 = 224 from by decide])
  rw [rounds_succ]
  go_wp2_with (go_at_call 26; refine (mark_any _ _).mono ?_; rintro e w' ⟨rfl, rfl⟩; rw [show Utf.mark 3 = 224 from by decide])
  rw [rounds_succ]
  go_wp2_with (go_at_call 26; refine (mark_any _ _).mono ?_; rintro e w' ⟨rfl, rfl⟩; rw [show Utf.mark 3 = 224 from by decide])
  refine bodyPost_ret (v := .agg #[.int .u8 (224 + r / 64 / 64), .int .u8 (128 + r / 64 % 64), .int .u8 (128 + r % 64), .int .u8 (0)]) ?_ rfl ⟨rfl, ((Below.refl _ _).alloc (Nat.le_refl _) _).alloc (by simp) _⟩
  simp [results, Try.results24, go_sem]
set_option maxRecDepth 100000 in
set_option maxHeartbeats 400000 in
theorem spell4 (r : Int) (h1 : 65536 ≤ r) (h2 : r ≤ 1114111) (w : World) : Calls Try.prog 24 #[.int .i64 r, .int .i64 4] w fun e w' =>
    e = .returned (.agg #[.int .u8 (240 + r / 64 / 64 / 64), .int .u8 (128 + r / 64 / 64 % 64), .int .u8 (128 + r / 64 % 64), .int .u8 (128 + r % 64)]) ∧ Below w.heap.size w w' := by
  have a1 := i64_and63 r
  have a2 := i64_and63 (r / 64)
  have a3 := i64_and63 (r / 64 / 64)
  go_enter Try.func24, Try.ntmps24
  go_wp2
  refine wp_loop_rounds 4 ?_
  rw [rounds_succ]
  go_wp2_with (go_at_call 26; refine (mark_any _ _).mono ?_; rintro e w' ⟨rfl, rfl⟩; rw [show Utf.mark 4 = 240 from by decide])
  rw [rounds_succ]
  go_wp2_with (go_at_call 26; refine (mark_any _ _).mono ?_; rintro e w' ⟨rfl, rfl⟩; rw [show Utf.mark 4 = 240 from by decide])
  rw [rounds_succ]
  go_wp2_with (go_at_call 26; refine (mark_any _ _).mono ?_; rintro e w' ⟨rfl, rfl⟩; rw [show Utf.mark 4 = 240 from by decide])
  rw [rounds_succ]
  go_wp2_with (go_at_call 26; refine (mark_any _ _).mono ?_; rintro e w' ⟨rfl, rfl⟩; rw [show Utf.mark 4 = 240 from by decide])
  refine bodyPost_ret (v := .agg #[.int .u8 (240 + r / 64 / 64 / 64), .int .u8 (128 + r / 64 / 64 % 64), .int .u8 (128 + r / 64 % 64), .int .u8 (128 + r % 64)]) ?_ rfl ⟨rfl, ((Below.refl _ _).alloc (Nat.le_refl _) _).alloc (by simp) _⟩
  simp [results, Try.results24, go_sem]

def cell4 (l : List Int) : Value := .agg #[.int .u8 (l[0]?.getD 0), .int .u8 (l[1]?.getD 0), .int .u8 (l[2]?.getD 0), .int .u8 (l[3]?.getD 0)]
theorem spell_any (r : Int) (h : Utf.width r ≠ 0) (w : World) : Calls Try.prog 24 #[.int .i64 r, .int .i64 (Utf.width r)] w fun e w' =>
    e = .returned (cell4 (Utf.encN r)) ∧ Below w.heap.size w w' := by
  rcases Utf.width_cases r with ⟨q, _⟩ | ⟨q, h1, h2⟩ | ⟨q, h1, h2⟩ | ⟨q, h1, h2, h3⟩ | ⟨q, h1, h2⟩
  · exact absurd q h
  · rw [q]; refine (spell1 r h1 h2 w).mono fun e w' ⟨he, hb⟩ => ⟨he.trans ?_, hb⟩
    simp [cell4, Utf.encN, q]
  · rw [q]; refine (spell2 r h1 h2 w).mono fun e w' ⟨he, hb⟩ => ⟨he.trans ?_, hb⟩
    simp [cell4, Utf.encN, q]
  · rw [q]; refine (spell3 r h1 h2 w).mono fun e w' ⟨he, hb⟩ => ⟨he.trans ?_, hb⟩
    have : r / 64 / 64 = r / 4096 := by omega
    simp [cell4, Utf.encN, q, this]
  · rw [q]; refine (spell4 r h1 h2 w).mono fun e w' ⟨he, hb⟩ => ⟨he.trans ?_, hb⟩
    have e1 : r / 64 / 64 = r / 4096 := by omega
    have e2 : r / 4096 / 64 = r / 262144 := by omega
    simp [cell4, Utf.encN, q, e1, e2]
end Go.Proofs.Ytjeebamllahgkaa
