/- Strings as numbers, bits, and small laws that every text on utf or its reference uses; the reference's Width. · The contracts of the small functions of package utf and of its reference: width, first byte's mark, announced length. · The landed bands: the widths of both ends of a range; a range cut into two. · The contract of utf.Decode: it reads what the plain mathematics reads. · The contracts of utf.spell and utf.Encode. · The contract of utf.Encode: the bytes of the plain mathematics, or ErrRange. · The plain mathematics of bands: what the splitting of numbers is in the bytes of the encodings; no program. · The plain mathematics of bands: lengths, and the steps of splitting as the bytes say them. · burinbook.LendRanges. -/
import Derived.Test.YtfopcgbfbedcjaaRows
import Derived.Test.YtfopcgbfbedcjaaPk3
import Derived.WalkKit
import Derived.OwnWalk
import Derived.WalkLawsBesides
import Derived.WalkSpells
import Derived.Lib.Hide
import Derived.Deep.QuietTactic
import Derived.BigQuiet
import Derived.Laws.BitsLemmas
import Derived.Laws.Bits128
import Derived.Laws.Rows
import Derived.Laws.BytesArg
import Derived.Laws.IdiomStrings
import Derived.Test.YtfopcgbfbedcjaaPk2
import Derived.Deep.RegionHeld3
namespace Go.Proofs.Ytfopcgbfbedcjaa
open Go.RowKit
theorem ret_int {k : IntKind} {a b : Int} (h : a = b) : Ending.returned (.int k a) = .returned (.int k b) := by rw [h]
theorem ret_two {k : IntKind} {a b c d : Int} (h : a = b) (h' : c = d) : Ending.returned (.tuple #[.int k a, .int k c]) = .returned (.tuple #[.int k b, .int k d]) := by rw [h, h']
/-- 'x & 0xC0' says whether x is a later byte of an encoding. -/
theorem and192 (x : Nat) (h : x < 256) : bits .and .u8 (x : Int) 192 = (x : Int) / 64 * 64 := by
  revert h; revert x; decide +kernel
theorem and63 (x : Nat) (h : x < 256) : bits .and .u8 (x : Int) 63 = (x : Int) % 64 := by
  revert h; revert x; decide +kernel
theorem toList_ne {s : ByteArray} (h : 0 < s.size) : s.toList.isEmpty = false ∧ ¬ s.toList = [] := by
  have : s.toList.length = s.size := by rw [ByteArray.toList_eq]; exact Array.length_toList
  refine ⟨?_, fun e => by rw [e] at this; simp at this; omega⟩
  rw [List.isEmpty_eq_false_iff]; intro e; rw [e] at this; simp at this; omega
theorem toList_e {s : ByteArray} (h : s.size = 0) : s.toList.isEmpty = true ∧ s.toList = [] := by
  have : s.toList.length = s.size := by rw [ByteArray.toList_eq]; exact Array.length_toList
  have e : s.toList = [] := List.eq_nil_of_length_eq_zero (by omega)
  exact ⟨by rw [e]; rfl, e⟩
theorem i64_and63 (n : Int) : bits .and .i64 n 63 = n % 64 := by
  have h63 : (BitVec.ofInt 64 63).toNat = 2 ^ 6 - 1 := by decide
  have key : (BitVec.ofInt 64 n &&& BitVec.ofInt 64 63).toNat = (n % ((2 ^ 64 : Nat) : Int)).toNat % 2 ^ 6 := by
    rw [BitVec.toNat_and, BitVec.toNat_ofInt, h63, Nat.and_two_pow_sub_one_eq_mod]
  show IntKind.i64.wrap ((BitVec.ofInt 64 n &&& BitVec.ofInt 64 63).toNat : Nat) = n % 64
  rw [key, IntKind.wrap_i64]
  omega
theorem below_drewS (w : World) (n B : Nat) : Below B w (w.drewN n) := ⟨rfl, rfl, rfl, Nat.le_refl _, fun _ _ => rfl⟩
theorem nums_append (s t : ByteArray) : Utf.nums (s ++ t) = Utf.nums s ++ Utf.nums t := by
  unfold Utf.nums; rw [ByteArray.data_append, Array.toList_append, List.map_append]
theorem nums_strOf (xs : List Int) (h : Utf.Bytes xs) : Utf.nums (strOfNums xs) = xs := by
  unfold Utf.nums strOfNums
  simp only [List.map_map]
  conv => rhs; rw [← List.map_id xs]
  apply List.map_congr_left
  intro x hx
  have := h x hx
  simp only [Function.comp, UInt8.toNat_ofNat', id]
  omega
theorem size_strOf (xs : List Int) : (strOfNums xs).size = xs.length := by
  unfold strOfNums; show (List.toArray _).size = _; simp
theorem nums_inj {s t : ByteArray} (h : Utf.nums s = Utf.nums t) : s = t := by
  apply ByteArray.ext
  apply Array.toList_inj.1
  unfold Utf.nums at h
  exact List.map_inj_right (fun a b e => UInt8.toNat_inj.1 (by exact_mod_cast e)) |>.1 h
theorem refWidth_any (r : Int) (w : World) : Calls Try.prog 53 #[.int .i64 r] w fun e w' => e = .returned (.int .i64 (Utf.width r)) ∧ w = w' := by
  go_enter Try.func53, Try.ntmps53
  go_wp2
  all_goals
    go_ret
    refine ⟨ret_int ?_, rfl⟩
    unfold Utf.width
    repeat (first | omega | rfl | split)
end Go.Proofs.Ytfopcgbfbedcjaa
namespace Go.Proofs.Ytfopcgbfbedcjaa
open Go.RowKit


theorem width_any (r : Int) (w : World) : Calls Try.prog 35 #[.int .i64 r] w fun e w' => e = .returned (.int .i64 (Utf.width r)) ∧ w = w' := by
  go_enter Try.func35, Try.ntmps35
  go_wp2
  all_goals
    go_ret
    refine ⟨ret_int ?_, rfl⟩
    unfold Utf.width
    repeat (first | omega | rfl | split)
theorem announced_any (r : Int) (w : World) : Calls Try.prog 33 #[.int .u8 r] w fun e w' => e = .returned (.int .i64 (Utf.ann r)) ∧ w = w' := by
  go_enter Try.func33, Try.ntmps33
  go_wp2
  all_goals
    go_ret
    refine ⟨ret_int ?_, rfl⟩
    unfold Utf.ann
    repeat (first | omega | rfl | split)
theorem mark_any (r : Int) (w : World) : Calls Try.prog 34 #[.int .i64 r] w fun e w' => e = .returned (.int .i64 (Utf.mark r)) ∧ w = w' := by
  go_enter Try.func34, Try.ntmps34
  go_wp2
  all_goals
    go_ret
    refine ⟨ret_int ?_, rfl⟩
    unfold Utf.mark
    simp_all
end Go.Proofs.Ytfopcgbfbedcjaa
namespace Go.Proofs.Ytfopcgbfbedcjaa
open Go.RowKit
set_option linter.unusedVariables false
set_option maxRecDepth 100000 in
set_option maxHeartbeats 1000000 in
theorem widths_any (W : World) (lo hi : Int) : Calls Try.prog 45 #[.agg #[.int .i64 lo, .int .i64 hi]] W fun e w' =>
    e = .returned (.agg #[.int .i64 (Utf.width lo), .int .i64 (Utf.width hi)]) ∧ Below W.heap.size W w' := by
  have mixed : Try.prog.follows .mixedOrders = true := by kernel_rfl
  go_enter Try.func45, Try.ntmps45
  go_wp2
  go_region_held3 (fun w' => w'.cell? ⟨W.heap.size, 0, none⟩ = some (.int .i64 lo) ∧ w'.cell? ⟨W.heap.size, 1, none⟩ = some (.int .i64 hi))
    (first | assumption | go_keep)
    (first
      | (go_at_call 35; refine (width_any _ _).mono ?_; rintro e w ⟨rfl, rfl⟩))
  go_wp2
  refine bodyPost_ret (v := .agg #[.int .i64 (Utf.width lo), .int .i64 (Utf.width hi)]) ?_ rfl ⟨rfl, below_drewN (((Below.refl W.heap.size W).alloc (Nat.le_refl _) _).alloc (by simp) _) 1⟩
  simp [results, Try.results45, go_sem]
theorem RgOwn.two {w : World} {base g : Nat} {x y z u : Int} (hb : base ≤ w.heap.size) (hg : g = w.heap.size) : RgOwn (w.alloc (.cells #[.int .i64 x, .int .i64 y, .int .i64 z, .int .i64 u] 44)) base (.slice (some ⟨g, 0, none⟩) 2 2) [(x, y), (z, u)] :=
  ⟨rfl, .inr ⟨g, 2, _, rfl, by omega, by rw [hg]; exact heap_alloc_new _ _, Nat.le_refl _, by decide, rfl, rfl⟩⟩
set_option maxRecDepth 100000 in
set_option maxHeartbeats 1000000 in
theorem cut_any (W : World) (lo hi m : Int) (hm : -9223372036854775808 ≤ m ∧ m < 9223372036854775807) : Calls Try.prog 46 #[.agg #[.int .i64 lo, .int .i64 hi], .int .i64 m] W fun e w' =>
    ∃ v, e = .returned v ∧ RgOwn w' W.heap.size v [(m + 1, hi), (lo, m)] ∧ Below W.heap.size W w' := by
  go_enter Try.func46, Try.ntmps46
  go_wp2
  go_ret
  exact ⟨_, rfl, RgOwn.two (w := W.alloc _) (base := W.heap.size) (g := W.heap.size + 1) (by simp) (by simp), ((Below.refl W.heap.size W).alloc (Nat.le_refl _) _).alloc (by simp) _⟩
end Go.Proofs.Ytfopcgbfbedcjaa
namespace Go.Proofs.Ytfopcgbfbedcjaa
open Go.RowKit
def DecPost (s : ByteArray) (w : World) (e : Ending) (w' : World) : Prop :=
  e = .returned (.tuple #[.int .i64 (Utf.dec (Utf.nums s)).1, .int .i64 (Utf.dec (Utf.nums s)).2]) ∧ ∃ n, w' = w.drewN n
theorem decPost_mk {s : ByteArray} {w : World} {a b : Int} {n : Nat} (h : Utf.dec (Utf.nums s) = (a, b)) : DecPost s w (.returned (.tuple #[.int .i64 a, .int .i64 b])) (w.drewN n) := by
  unfold DecPost; rw [h]; exact ⟨rfl, n, rfl⟩
theorem decPost_mk0 {s : ByteArray} {w : World} {a b : Int} (h : Utf.dec (Utf.nums s) = (a, b)) : DecPost s w (.returned (.tuple #[.int .i64 a, .int .i64 b])) w := by
  unfold DecPost; rw [h]; exact ⟨rfl, 0, rfl⟩

set_option maxRecDepth 100000 in
set_option maxHeartbeats 400000 in
theorem decode_any (s : ByteArray) (hs : s.size ≤ maxLen) (w : World) : Calls Try.prog 22 #[.string s] w (DecPost s w) := by
  unfold maxLen at hs
  by_cases h0 : 0 < s.size
  · obtain ⟨hne, hne2⟩ := toList_ne h0
    have hat := Utf.nums_at s 0 h0
    have hnil : Utf.nums s ≠ [] := by rw [Ne, Utf.nums_nil]; omega
    obtain ⟨n, hn⟩ : ∃ n : Nat, Utf.ann ((s[0].toNat : Nat) : Int) = n := ⟨(Utf.ann ((s[0].toNat : Nat) : Int)).toNat, by have := Utf.ann_bd ((s[0].toNat : Nat) : Int); omega⟩
    have hn4 : n ≤ 4 := by have := Utf.ann_bd ((s[0].toNat : Nat) : Int); omega
    have hb : s[0].toNat < 256 := UInt8.toNat_lt _
    have HN := Lib.hid hn
    have HT := Lib.hid hat
    have HI := Lib.hid hnil
    by_cases hn0 : n = 0
    · have HB := Lib.hid (Utf.dec_bad1 (Utf.nums s) hnil (.inl (by rw [hat, hn, hn0]; rfl)))
      subst hn0
      clear hn hat hnil
      go_enter Try.func22, Try.ntmps22
      go_wp2_with (go_at_call 33; refine (announced_any _ _).mono ?_; rintro e w' ⟨rfl, rfl⟩; rw [HN.out])
      go_ret2
      exact decPost_mk0 HB.out
    · have hz : ((n : Int) == 0) = false := by simp; omega
      by_cases hl : n ≤ s.size
      · have hmb := Utf.mark_bd n
        have hacc : ∀ k, k ≤ 4 → 0 ≤ Utf.acc (Utf.nums s) (Utf.mark n) k ∧ Utf.acc (Utf.nums s) (Utf.mark n) k ≤ 67108863 := by
          intro k hk
          have := Utf.acc_bd (Utf.nums s) (Utf.nums_bytes s) k hk
          rw [hat, hn] at this
          exact this
        have HA := Lib.hid hacc
        have hsub : (s[0].toNat : Int) - Utf.mark n = Utf.acc (Utf.nums s) (Utf.mark n) 1 := by
          rw [Utf.acc1, hat]
        have HS := Lib.hid hsub
        clear hn hat hacc hsub hnil
        go_enter Try.func22, Try.ntmps22
        go_wp2_with (go_at_call 33; refine (announced_any _ _).mono ?_; rintro e w' ⟨rfl, rfl⟩; rw [HN.out])
        go_quiet ((go_at_call 34; exact Calls.quiet_of_same ((mark_any _ _).mono fun _ _ h => ⟨h.1, h.2.symm⟩)))
        go_wp2
        go_loop [2, 3, 4] (fun r N i => ∃ k : Nat, 1 ≤ k ∧ k ≤ n ∧ i = .int .i64 k ∧ N = .int .i64 n ∧ r = .int .i64 (Utf.acc (Utf.nums s) (Utf.mark n) k) ∧ Utf.conts (Utf.nums s) k = true) (fun _ _ i => n - (intOf i).toNat)
        case atStart => exact ⟨1, Nat.le_refl _, by omega, rfl, rfl, by rw [← HS.out], rfl⟩
        case round =>
          obtain ⟨k, hk1, hk, rfl, rfl, rfl, hc⟩ := hrel
          have ha := HA.out k (by omega)
          have HC := Lib.hid hc
          clear hc
          by_cases hkn : k < n
          · have hks : k < s.size := by omega
            have hb : s[k].toNat < 256 := UInt8.toNat_lt _
            have hand := and192 _ hb
            have hand2 := and63 _ hb
            have HK := Lib.hid (Utf.nums_at s k hks)
            go_wp2
            · go_ret2
              refine decPost_mk (Utf.dec_bad2 _ n HI.out (by rw [HT.out, HN.out]) fun h => ?_)
              have := Utf.conts_at _ n k h.1 hk1 hkn
              rw [HK.out] at this
              exact Utf.cont_no _ (by assumption) this
            · go_round
              case rel => exact ⟨k + 1, by omega, by omega, by go_num, rfl, by rw [Utf.acc_succ _ _ _ hk1, HK.out], Utf.conts_succ _ _ hk1 HC.out (by rw [HK.out]; exact Utf.cont_yes _ (by assumption))⟩
              case measure => simp [intOf]; omega
          · obtain rfl : k = n := by omega
            clear hk
            by_cases hw : Utf.width (Utf.acc (Utf.nums s) (Utf.mark k) k) = k
            · have HD := Lib.hid (Utf.dec_of (Utf.nums s) (Utf.acc (Utf.nums s) (Utf.mark k) k) k hn0 (by rw [HT.out, HN.out]) (by rw [Utf.nums_length]; exact hl) HC.out rfl hw)
              have HW := Lib.hid hw
              clear hw
              go_wp2_with (go_at_call 35; refine (width_any _ _).mono ?_; rintro e w' ⟨rfl, rfl⟩; rw [HW.out])
              go_ret2
              exact decPost_mk HD.out
            · have hwb : ((Utf.width (Utf.acc (Utf.nums s) (Utf.mark k) k) : Int) != k) = true := by simpa using hw
              have HD := Lib.hid (Utf.dec_bad2 (Utf.nums s) k HI.out (by rw [HT.out, HN.out]) fun h => hw h.2)
              clear hw
              go_wp2_with (go_at_call 35; refine (width_any _ _).mono ?_; rintro e w' ⟨rfl, rfl⟩)
              go_ret2
              exact decPost_mk HD.out
      · have HB := Lib.hid (Utf.dec_bad1 (Utf.nums s) hnil (.inr (by rw [hat, hn, Utf.nums_length]; omega)))
        clear hn hat hnil
        go_enter Try.func22, Try.ntmps22
        go_wp2_with (go_at_call 33; refine (announced_any _ _).mono ?_; rintro e w' ⟨rfl, rfl⟩; rw [HN.out])
        go_ret2
        exact decPost_mk0 HB.out
  · obtain ⟨hne, hne2⟩ := toList_e (s := s) (by omega)
    have HD : Utf.dec (Utf.nums s) = (-1, 0) := by rw [(Utf.nums_nil s).2 (by omega)]; rfl
    have HD := Lib.hid HD
    go_enter Try.func22, Try.ntmps22
    go_wp2
    go_ret2
    exact decPost_mk0 HD.out
end Go.Proofs.Ytfopcgbfbedcjaa
namespace Go.Proofs.Ytfopcgbfbedcjaa
open Go.RowKit
set_option maxRecDepth 100000 in
set_option maxHeartbeats 400000 in
theorem spell1 (r : Int) (h1 : 0 ≤ r) (h2 : r ≤ 127) (w : World) : Calls Try.prog 39 #[.int .i64 r, .int .i64 1] w fun e w' =>
    e = .returned (.agg #[.int .u8 (r), .int .u8 (0), .int .u8 (0), .int .u8 (0)]) ∧ Below w.heap.size w w' := by
  go_enter Try.func39, Try.ntmps39
  go_wp2
  refine wp_loop_rounds 1 ?_
  rw [rounds_succ]
  go_wp2_with (go_at_call 34; refine (mark_any _ _).mono ?_; rintro e w' ⟨rfl, rfl⟩; rw [show Utf.mark 1 = 0 from by decide])
  refine bodyPost_ret (v := .agg #[.int .u8 (r), .int .u8 (0), .int .u8 (0), .int .u8 (0)]) ?_ rfl ⟨rfl, ((Below.refl _ _).alloc (Nat.le_refl _) _).alloc (by simp) _⟩
  simp [results, Try.results39, go_sem]
set_option maxRecDepth 100000 in
set_option maxHeartbeats 400000 in
theorem spell2 (r : Int) (h1 : 128 ≤ r) (h2 : r ≤ 2047) (w : World) : Calls Try.prog 39 #[.int .i64 r, .int .i64 2] w fun e w' =>
    e = .returned (.agg #[.int .u8 (192 + r / 64), .int .u8 (128 + r % 64), .int .u8 (0), .int .u8 (0)]) ∧ Below w.heap.size w w' := by
  have a1 := i64_and63 r
  go_enter Try.func39, Try.ntmps39
  go_wp2
  refine wp_loop_rounds 2 ?_
  rw [rounds_succ]
  go_wp2_with (go_at_call 34; refine (mark_any _ _).mono ?_; rintro e w' ⟨rfl, rfl⟩; rw [show Utf.mark 2 = 192 from by decide])
  rw [rounds_succ]
  go_wp2_with (go_at_call 34; refine (mark_any _ _).mono ?_; rintro e w' ⟨rfl, rfl⟩; rw [show Utf.mark 2 = 192 from by decide])
  refine bodyPost_ret (v := .agg #[.int .u8 (192 + r / 64), .int .u8 (128 + r % 64), .int .u8 (0), .int .u8 (0)]) ?_ rfl ⟨rfl, ((Below.refl _ _).alloc (Nat.le_refl _) _).alloc (by simp) _⟩
  simp [results, Try.results39, go_sem]
set_option maxRecDepth 100000 in
set_option maxHeartbeats 400000 in
theorem spell3 (r : Int) (h1 : 2048 ≤ r) (h2 : r ≤ 65535) (w : World) : Calls Try.prog 39 #[.int .i64 r, .int .i64 3] w fun e w' =>
    e = .returned (.agg #[.int .u8 (224 + r / 64 / 64), .int .u8 (128 + r / 64 % 64), .int .u8 (128 + r % 64), .int .u8 (0)]) ∧ Below w.heap.size w w' := by
  have a1 := i64_and63 r
  have a2 := i64_and63 (r / 64)
  go_enter Try.func39, Try.ntmps39
  go_wp2
  refine wp_loop_rounds 3 ?_
  rw [rounds_succ]
  go_wp2_with (go_at_call 34; refine (mark_any _ _).mono ?_; rintro e w' ⟨rfl, rfl⟩; rw [show Utf.mark 3 = 224 from by decide])
  rw [rounds_succ]
  go_wp2_with (go_at_call 34; refine (mark_any _ _).mono ?_; rintro e w' ⟨rfl, rfl⟩; rw [show Utf.mark 3 = 224 from by decide])
  rw [rounds_succ]
  go_wp2_with (go_at_call 34; refine (mark_any _ _).mono ?_; rintro e w' ⟨rfl, rfl⟩; rw [show Utf.mark 3 = 224 from by decide])
  refine bodyPost_ret (v := .agg #[.int .u8 (224 + r / 64 / 64), .int .u8 (128 + r / 64 % 64), .int .u8 (128 + r % 64), .int .u8 (0)]) ?_ rfl ⟨rfl, ((Below.refl _ _).alloc (Nat.le_refl _) _).alloc (by simp) _⟩
  simp [results, Try.results39, go_sem]
set_option maxRecDepth 100000 in
set_option maxHeartbeats 400000 in
theorem spell4 (r : Int) (h1 : 65536 ≤ r) (h2 : r ≤ 1114111) (w : World) : Calls Try.prog 39 #[.int .i64 r, .int .i64 4] w fun e w' =>
    e = .returned (.agg #[.int .u8 (240 + r / 64 / 64 / 64), .int .u8 (128 + r / 64 / 64 % 64), .int .u8 (128 + r / 64 % 64), .int .u8 (128 + r % 64)]) ∧ Below w.heap.size w w' := by
  have a1 := i64_and63 r
  have a2 := i64_and63 (r / 64)
  have a3 := i64_and63 (r / 64 / 64)
  go_enter Try.func39, Try.ntmps39
  go_wp2
  refine wp_loop_rounds 4 ?_
  rw [rounds_succ]
  go_wp2_with (go_at_call 34; refine (mark_any _ _).mono ?_; rintro e w' ⟨rfl, rfl⟩; rw [show Utf.mark 4 = 240 from by decide])
  rw [rounds_succ]
  go_wp2_with (go_at_call 34; refine (mark_any _ _).mono ?_; rintro e w' ⟨rfl, rfl⟩; rw [show Utf.mark 4 = 240 from by decide])
  rw [rounds_succ]
  go_wp2_with (go_at_call 34; refine (mark_any _ _).mono ?_; rintro e w' ⟨rfl, rfl⟩; rw [show Utf.mark 4 = 240 from by decide])
  rw [rounds_succ]
  go_wp2_with (go_at_call 34; refine (mark_any _ _).mono ?_; rintro e w' ⟨rfl, rfl⟩; rw [show Utf.mark 4 = 240 from by decide])
  refine bodyPost_ret (v := .agg #[.int .u8 (240 + r / 64 / 64 / 64), .int .u8 (128 + r / 64 / 64 % 64), .int .u8 (128 + r / 64 % 64), .int .u8 (128 + r % 64)]) ?_ rfl ⟨rfl, ((Below.refl _ _).alloc (Nat.le_refl _) _).alloc (by simp) _⟩
  simp [results, Try.results39, go_sem]

def cell4 (l : List Int) : Value := .agg #[.int .u8 (l[0]?.getD 0), .int .u8 (l[1]?.getD 0), .int .u8 (l[2]?.getD 0), .int .u8 (l[3]?.getD 0)]
theorem spell_any (r : Int) (h : Utf.width r ≠ 0) (w : World) : Calls Try.prog 39 #[.int .i64 r, .int .i64 (Utf.width r)] w fun e w' =>
    e = .returned (cell4 (Utf.encN r)) ∧ Below w.heap.size w w' := by
  rcases Utf.width_cases r with ⟨q, _⟩ | ⟨q, h1, h2⟩ | ⟨q, h1, h2⟩ | ⟨q, h1, h2, h3⟩ | ⟨q, h1, h2⟩
  · exact absurd q h
  · rw [q]; refine (spell1 r h1 h2 w).mono fun e w' ⟨he, hb⟩ => ⟨he.trans ?_, hb⟩
    simp [cell4, Utf.encN, q]
  · rw [q]; refine (spell2 r h1 h2 w).mono fun e w' ⟨he, hb⟩ => ⟨he.trans ?_, hb⟩
    simp [cell4, Utf.encN, q]
  · rw [q]; refine (spell3 r h1 h2 w).mono fun e w' ⟨he, hb⟩ => ⟨he.trans ?_, hb⟩
    have : r / 64 / 64 = r / 4096 := by omega
    simp [cell4, Utf.encN, q, this]
  · rw [q]; refine (spell4 r h1 h2 w).mono fun e w' ⟨he, hb⟩ => ⟨he.trans ?_, hb⟩
    have e1 : r / 64 / 64 = r / 4096 := by omega
    have e2 : r / 4096 / 64 = r / 262144 := by omega
    simp [cell4, Utf.encN, q, e1, e2]
end Go.Proofs.Ytfopcgbfbedcjaa
namespace Go.Proofs.Ytfopcgbfbedcjaa
open Go.RowKit
theorem slice4 (n : Nat) (hn : n ≤ 4) (b : Nat) (wx : World) :
    (Instr.sliceAt 61 (.pointer (some ⟨b, 0, none⟩)) none (some (.int .i64 (n : Int))) none).run Try.prog wx = .ok (.slice (some ⟨b, 0, none⟩) n 4) wx := by
  rcases (by omega : n = 0 ∨ n = 1 ∨ n = 2 ∨ n = 3 ∨ n = 4) with rfl | rfl | rfl | rfl | rfl <;> kernel_rfl
theorem conv4 (xs : List Int) (n : Nat) (hl : xs.length = n) (hn : n ≤ 4) (w1 : World) :
    (convert 45 9 (.slice (some ⟨w1.heap.size, 0, none⟩) n 4)).run Try.prog (w1.alloc (.cells #[.int .u8 (xs[0]?.getD 0), .int .u8 (xs[1]?.getD 0), .int .u8 (xs[2]?.getD 0), .int .u8 (xs[3]?.getD 0)] 61)) =
      .ok (.string (strOfNums xs)) (w1.alloc (.cells #[.int .u8 (xs[0]?.getD 0), .int .u8 (xs[1]?.getD 0), .int .u8 (xs[2]?.getD 0), .int .u8 (xs[3]?.getD 0)] 61)) := by
  refine run_convert_bytes_arg _ 45 5 Try.underlying45 Try.underlying5 w1.heap.size 0 n 4 xs hl ?_ 9 Try.underlying9
  intro i hi
  rw [Nat.zero_add, World.cell?_alloc_mark]
  rcases (by omega : i = 0 ∨ i = 1 ∨ i = 2 ∨ i = 3) with rfl | rfl | rfl | rfl <;> simp [List.getD]
set_option maxRecDepth 100000 in
set_option maxHeartbeats 400000 in
theorem encode_yes (r : Int) (h : Utf.width r ≠ 0) (w : World) : Calls Try.prog 24 #[.int .i64 r] w fun e w' =>
    e = .returned (.tuple #[.string (strOfNums (Utf.encN r)), .int .i64 0]) ∧ Below w.heap.size w w' := by
  obtain ⟨n, hn⟩ : ∃ n : Nat, Utf.width r = n := ⟨(Utf.width r).toNat, by have := Utf.width_le r; omega⟩
  have hl : (Utf.encN r).length = n := by have := Utf.encN_length r; omega
  have hn4 : n ≤ 4 := by have := Utf.width_le r; omega
  have hn0 : n ≠ 0 := by omega
  have hz : ((n : Int) == 0) = false := by simp; omega
  have hsp := spell_any r h
  rw [hn] at hsp
  unfold cell4 at hsp
  have hsl := slice4 n hn4
  have hcv := conv4 (Utf.encN r) n hl hn4
  have HN := Lib.hid hn
  have HS := Lib.hid hsp
  clear hn hl hsp h
  go_enter Try.func24, Try.ntmps24
  go_wp2_with (first | (go_at_call 35; refine (width_any _ _).mono ?_; rintro e w' ⟨rfl, rfl⟩; rw [HN.out]) | (go_at_call 39; refine (HS.out _).mono ?_; rintro e w1 ⟨rfl, hb1⟩))
  go_ret2
  exact ⟨rfl, hb1.alloc hb1.size _⟩
theorem encode_no (r : Int) (h : Utf.width r = 0) (w : World) : Calls Try.prog 24 #[.int .i64 r] w fun e w' =>
    e = .returned (.tuple #[.string ByteArray.empty, .int .i64 1]) ∧ w = w' := by
  have HN := Lib.hid h
  clear h
  go_enter Try.func24, Try.ntmps24
  go_wp2_with (first | (go_at_call 35; refine (width_any _ _).mono ?_; rintro e w' ⟨rfl, rfl⟩; rw [HN.out]))
  go_ret2
  exact ⟨rfl, rfl⟩
end Go.Proofs.Ytfopcgbfbedcjaa
namespace Go.Proofs.Ytfopcgbfbedcjaa.Bd
open Go.Proofs.Ytfopcgbfbedcjaa.Rg
set_option linter.unusedVariables false
/-- Two runes of one class: of one width, and all between them runes. -/
structure Cls (w : Nat) (lo hi : Int) : Prop where
  le : lo ≤ hi
  bd : (w = 1 ∧ 0 ≤ lo ∧ hi ≤ 127) ∨ (w = 2 ∧ 128 ≤ lo ∧ hi ≤ 2047) ∨ (w = 3 ∧ 2048 ≤ lo ∧ hi ≤ 55295) ∨ (w = 3 ∧ 57344 ≤ lo ∧ hi ≤ 65535) ∨ (w = 4 ∧ 65536 ≤ lo ∧ hi ≤ 1114111)
theorem Cls.width {w : Nat} {lo hi r : Int} (h : Cls w lo hi) (h1 : lo ≤ r) (h2 : r ≤ hi) : Utf.width r = w := by
  have hb := h.bd
  rcases Utf.width_cases r with ⟨q, z⟩ | ⟨q, z⟩ | ⟨q, z⟩ | ⟨q, z⟩ | ⟨q, z⟩ <;> omega
theorem Cls.sub {w : Nat} {lo hi a b : Int} (h : Cls w lo hi) (h1 : lo ≤ a) (h2 : b ≤ hi) (h3 : a ≤ b) : Cls w a b :=
  ⟨h3, by have := h.bd; omega⟩
theorem enc1 {r : Int} (h : Utf.width r = 1) : Utf.encN r = [r] := by simp [Utf.encN, h]
theorem enc2 {r : Int} (h : Utf.width r = 2) : Utf.encN r = [192 + r / 64, 128 + r % 64] := by simp [Utf.encN, h]
theorem enc3 {r : Int} (h : Utf.width r = 3) : Utf.encN r = [224 + r / 4096, 128 + r / 64 % 64, 128 + r % 64] := by simp [Utf.encN, h]
theorem enc4 {r : Int} (h : Utf.width r = 4) : Utf.encN r = [240 + r / 262144, 128 + r / 4096 % 64, 128 + r / 64 % 64, 128 + r % 64] := by simp [Utf.encN, h]
/-- The pairs (width, i) there are. -/
theorem wi_cases {w i : Nat} (hw : w ≤ 4) (h1 : 1 ≤ i) (h2 : i < w) : (w = 2 ∧ i = 1) ∨ (w = 3 ∧ i = 1) ∨ (w = 3 ∧ i = 2) ∨ (w = 4 ∧ i = 1) ∨ (w = 4 ∧ i = 2) ∨ (w = 4 ∧ i = 3) := by omega
theorem pre_iff {w i : Nat} {a b : Int} (ha : Utf.width a = w) (hb : Utf.width b = w) (h1 : 1 ≤ i) (h2 : i < w) : (Utf.encN a).take (w - i) = (Utf.encN b).take (w - i) ↔ a / pw i = b / pw i := by
  have hw : w ≤ 4 := by have := Utf.width_le a; omega
  rcases wi_cases hw h1 h2 with ⟨rfl, rfl⟩ | ⟨rfl, rfl⟩ | ⟨rfl, rfl⟩ | ⟨rfl, rfl⟩ | ⟨rfl, rfl⟩ | ⟨rfl, rfl⟩
  · rw [enc2 ha, enc2 hb]; simp [pw] <;> omega
  · rw [enc3 ha, enc3 hb]; simp [pw] <;> omega
  · rw [enc3 ha, enc3 hb]; simp [pw] <;> omega
  · rw [enc4 ha, enc4 hb]; simp [pw] <;> omega
  · rw [enc4 ha, enc4 hb]; simp [pw] <;> omega
  · rw [enc4 ha, enc4 hb]; simp [pw] <;> omega
/-- The last i bytes are all c. -/
def lastAll (l : List Int) (i : Nat) (c : Int) : Bool := (l.drop (l.length - i)).all fun x => decide (x = c)
theorem last_low {w i : Nat} {a : Int} (ha : Utf.width a = w) (h1 : 1 ≤ i) (h2 : i < w) : lastAll (Utf.encN a) i 128 = true ↔ a % pw i = 0 := by
  have hw : w ≤ 4 := by have := Utf.width_le a; omega
  unfold lastAll
  rcases wi_cases hw h1 h2 with ⟨rfl, rfl⟩ | ⟨rfl, rfl⟩ | ⟨rfl, rfl⟩ | ⟨rfl, rfl⟩ | ⟨rfl, rfl⟩ | ⟨rfl, rfl⟩
  · rw [enc2 ha]; simp [pw] <;> omega
  · rw [enc3 ha]; simp [pw] <;> omega
  · rw [enc3 ha]; simp [pw] <;> omega
  · rw [enc4 ha]; simp [pw] <;> omega
  · rw [enc4 ha]; simp [pw] <;> omega
  · rw [enc4 ha]; simp [pw] <;> omega
theorem last_high {w i : Nat} {a : Int} (ha : Utf.width a = w) (h1 : 1 ≤ i) (h2 : i < w) : lastAll (Utf.encN a) i 191 = true ↔ a % pw i = pw i - 1 := by
  have hw : w ≤ 4 := by have := Utf.width_le a; omega
  unfold lastAll
  rcases wi_cases hw h1 h2 with ⟨rfl, rfl⟩ | ⟨rfl, rfl⟩ | ⟨rfl, rfl⟩ | ⟨rfl, rfl⟩ | ⟨rfl, rfl⟩ | ⟨rfl, rfl⟩
  · rw [enc2 ha]; simp [pw] <;> omega
  · rw [enc3 ha]; simp [pw] <;> omega
  · rw [enc3 ha]; simp [pw] <;> omega
  · rw [enc4 ha]; simp [pw] <;> omega
  · rw [enc4 ha]; simp [pw] <;> omega
  · rw [enc4 ha]; simp [pw] <;> omega
/-- The bytes ahead of the last i, and c in these. -/
def fillN (l : List Int) (i : Nat) (c : Int) : List Int := l.take (l.length - i) ++ List.replicate i c
theorem fill_high {w i : Nat} {a : Int} (ha : Utf.width a = w) (h1 : 1 ≤ i) (h2 : i < w) (hm : Utf.width (a / pw i * pw i + pw i - 1) = w) : fillN (Utf.encN a) i 191 = Utf.encN (a / pw i * pw i + pw i - 1) := by
  have hw : w ≤ 4 := by have := Utf.width_le a; omega
  unfold fillN
  rcases wi_cases hw h1 h2 with ⟨rfl, rfl⟩ | ⟨rfl, rfl⟩ | ⟨rfl, rfl⟩ | ⟨rfl, rfl⟩ | ⟨rfl, rfl⟩ | ⟨rfl, rfl⟩
  · rw [enc2 ha, enc2 hm]; simp [pw, List.replicate] <;> omega
  · rw [enc3 ha, enc3 hm]; simp [pw, List.replicate] <;> omega
  · rw [enc3 ha, enc3 hm]; simp [pw, List.replicate] <;> omega
  · rw [enc4 ha, enc4 hm]; simp [pw, List.replicate] <;> omega
  · rw [enc4 ha, enc4 hm]; simp [pw, List.replicate] <;> omega
  · rw [enc4 ha, enc4 hm]; simp [pw, List.replicate] <;> omega
theorem fill_low {w i : Nat} {a : Int} (ha : Utf.width a = w) (h1 : 1 ≤ i) (h2 : i < w) (hm : Utf.width (a / pw i * pw i) = w) : fillN (Utf.encN a) i 128 = Utf.encN (a / pw i * pw i) := by
  have hw : w ≤ 4 := by have := Utf.width_le a; omega
  unfold fillN
  rcases wi_cases hw h1 h2 with ⟨rfl, rfl⟩ | ⟨rfl, rfl⟩ | ⟨rfl, rfl⟩ | ⟨rfl, rfl⟩ | ⟨rfl, rfl⟩ | ⟨rfl, rfl⟩
  · rw [enc2 ha, enc2 hm]; simp [pw, List.replicate] <;> omega
  · rw [enc3 ha, enc3 hm]; simp [pw, List.replicate] <;> omega
  · rw [enc3 ha, enc3 hm]; simp [pw, List.replicate] <;> omega
  · rw [enc4 ha, enc4 hm]; simp [pw, List.replicate] <;> omega
  · rw [enc4 ha, enc4 hm]; simp [pw, List.replicate] <;> omega
  · rw [enc4 ha, enc4 hm]; simp [pw, List.replicate] <;> omega
end Go.Proofs.Ytfopcgbfbedcjaa.Bd
namespace Go.Proofs.Ytfopcgbfbedcjaa.Bd
open Go.Proofs.Ytfopcgbfbedcjaa.Rg
set_option linter.unusedVariables false
/-- One round of the search for the place of the cut. -/
theorem cutFrom_none {lo hi : Int} {w i f : Nat} (hi' : i < w) (h : cut lo hi i = none) : cutFrom lo hi w i (f + 1) = cutFrom lo hi w (i + 1) f := by
  rw [cutFrom, if_pos hi', h]
theorem cutFrom_some {lo hi m : Int} {w i f : Nat} (hi' : i < w) (h : cut lo hi i = some m) : cutFrom lo hi w i (f + 1) = some m := by
  rw [cutFrom, if_pos hi', h]
theorem cutFrom_end {lo hi : Int} {w i f : Nat} (h : ¬ i < w) : cutFrom lo hi w i f = none := by
  cases f with
  | zero => rfl
  | succ f => rw [cutFrom, if_neg h]
/-- The string of a rune's bytes: what the tests on it say. -/
structure EncIs (s : ByteArray) (r : Int) (w : Nat) : Prop where
  nums : Utf.nums s = Utf.encN r
  size : s.size = w
  width : Utf.width r = w
theorem encIs {r : Int} {w : Nat} (h : Utf.width r = w) : EncIs (strOfNums (Utf.encN r)) r w :=
  ⟨nums_strOf _ (Utf.encN_bytes r), by rw [size_strOf]; have := Utf.encN_length r; omega, h⟩
theorem EncIs.pre {s t : ByteArray} {a b : Int} {w i : Nat} (h : EncIs s a w) (k : EncIs t b w) (h1 : 1 ≤ i) (h2 : i < w) : ((s.extract 0 (w - i)).toList == (t.extract 0 (w - i)).toList) = decide (a / pw i = b / pw i) := by
  rw [Bool.eq_iff_iff, beq_iff_eq, decide_eq_true_eq, ← pre_iff h.width k.width h1 h2]
  have e : ∀ x : ByteArray, Utf.nums (x.extract 0 (w - i)) = (Utf.nums x).take (w - i) := fun x => by rw [Utf.nums_extract]; simp
  rw [← h.nums, ← k.nums, ← e, ← e]
  constructor
  · intro hh
    have : s.extract 0 (w - i) = t.extract 0 (w - i) := by
      apply ByteArray.ext; apply Array.toList_inj.1
      rw [← ByteArray.toList_eq, ← ByteArray.toList_eq]; exact hh
    rw [this]
  · intro hh; rw [nums_inj hh]
theorem EncIs.low {s : ByteArray} {a : Int} {w i : Nat} (h : EncIs s a w) (h1 : 1 ≤ i) (h2 : i < w) : lastAll (Utf.nums s) i 128 = decide (a % pw i = 0) := by
  rw [Bool.eq_iff_iff, decide_eq_true_eq, h.nums]; exact last_low h.width h1 h2
theorem EncIs.high {s : ByteArray} {a : Int} {w i : Nat} (h : EncIs s a w) (h1 : 1 ≤ i) (h2 : i < w) : lastAll (Utf.nums s) i 191 = decide (a % pw i = pw i - 1) := by
  rw [Bool.eq_iff_iff, decide_eq_true_eq, h.nums]; exact last_high h.width h1 h2
theorem EncIs.fillHigh {s : ByteArray} {a : Int} {w i : Nat} (h : EncIs s a w) (h0 : w ≠ 0) (h1 : 1 ≤ i) (h2 : i < w) (hm : Utf.width (a / pw i * pw i + pw i - 1) = w) : (Utf.dec (fillN (Utf.nums s) i 191)).1 = a / pw i * pw i + pw i - 1 := by
  rw [h.nums, fill_high h.width h1 h2 hm]
  have := Utf.dec_enc (a / pw i * pw i + pw i - 1) (by rw [hm]; omega) []
  rw [List.append_nil] at this
  rw [this]
theorem EncIs.fillLow {s : ByteArray} {a : Int} {w i : Nat} (h : EncIs s a w) (h0 : w ≠ 0) (h1 : 1 ≤ i) (h2 : i < w) (hm : Utf.width (a / pw i * pw i) = w) : (Utf.dec (fillN (Utf.nums s) i 128)).1 = a / pw i * pw i := by
  rw [h.nums, fill_low h.width h1 h2 hm]
  have := Utf.dec_enc (a / pw i * pw i) (by rw [hm]; omega) []
  rw [List.append_nil] at this
  rw [this]
theorem cut_same {lo hi : Int} {i : Nat} (h : lo / pw i = hi / pw i) : cut lo hi i = none := by unfold cut; rw [if_pos h]
theorem cut_low {lo hi : Int} {i : Nat} (h : lo / pw i ≠ hi / pw i) (h1 : lo % pw i ≠ 0) : cut lo hi i = some (lo / pw i * pw i + pw i - 1) := by unfold cut; rw [if_neg h, if_pos h1]
theorem cut_high {lo hi : Int} {i : Nat} (h : lo / pw i ≠ hi / pw i) (h1 : lo % pw i = 0) (h2 : hi % pw i ≠ pw i - 1) : cut lo hi i = some (hi / pw i * pw i - 1) := by unfold cut; rw [if_neg h, if_neg (by omega), if_pos h2]
theorem cut_no {lo hi : Int} {i : Nat} (h : lo / pw i ≠ hi / pw i) (h1 : lo % pw i = 0) (h2 : hi % pw i = pw i - 1) : cut lo hi i = none := by unfold cut; rw [if_neg h, if_neg (by omega), if_neg (by omega)]
end Go.Proofs.Ytfopcgbfbedcjaa.Bd
namespace Go.Proofs.Ytfopcgbfbedcjaa
open Go.RowKit
set_option linter.unusedVariables false
set_option maxRecDepth 100000 in
set_option maxHeartbeats 2000000 in
theorem lend_walk (W : World) (va : Value) (a : List (Int × Int)) (ha : RRow W va a) :
    Calls Try.prog 9 #[va] W fun e w' => ∃ g cap, a.length + 1 ≤ cap ∧ e = .returned (.slice (some ⟨g, 0, none⟩) a.length cap) ∧ RgOwn w' W.heap.size (.slice (some ⟨g, 0, none⟩) (a.length + 1) cap) (a ++ [(7, 0)]) ∧ Below W.heap.size W w' := by
  obtain ⟨i0, hi, hz0, hz1, hz2⟩ := info_parts Try.infoRange
  obtain ⟨a0, p, rfl, hl, hw, hc⟩ := ha
  obtain ⟨w1, hr1, ho1, hg1⟩ := run_make_own (P := Try.prog) W W.heap.size 22 44 i0 (.agg #[.int .i64 0, .int .i64 0]) 2 Try.underlying22 hi hz0 hz1 .i64 .i64 (a.length + 1) (by rw [hz2]; omega) (by unfold maxLen; omega) (Nat.le_refl _)
  have hB1 : Below W.heap.size W w1 := (Below.refl _ _).grown hg1 (Nat.le_refl _) (fun k hk => by cases hk)
  have h2 : ∃ w2, (Builtin.append_ #[22, 22] 22 #[.slice (some ⟨W.heap.size, 0, none⟩) 0 (a.length + 1), .slice a0 a.length p]).run Try.prog w1 = .ok (.slice (some ⟨W.heap.size, 0, none⟩) a.length (a.length + 1)) w2 ∧
      w2.ownsRow W.heap.size 44 2 (.slice (some ⟨W.heap.size, 0, none⟩) a.length (a.length + 1)) a.length (flat2 a) ∧ Below W.heap.size W w2 := by
    rcases Nat.eq_zero_or_pos a.length with h0 | hp
    · have e0 : a = [] := List.eq_nil_of_length_eq_zero h0
      subst e0
      exact ⟨w1, run_append_nothing W.heap.size _ _ 44 i0 2 Try.underlying22 hi _ 0 [] ho1 a0 p, ho1, hB1⟩
    · obtain ⟨b, off, rfl, hb, _⟩ := hc 0 hp
      have hc' : ∀ j, j < a.length → w1.cell? ⟨b, off + j * 2, none⟩ = some (.int .i64 (a[j]?.getD (0, 0)).1) ∧ w1.cell? ⟨b, off + j * 2 + 1, none⟩ = some (.int .i64 (a[j]?.getD (0, 0)).2) := by
        intro j hj
        obtain ⟨b', off', hbb, _, h1, h2⟩ := hc j hj
        injection hbb with hbb; injection hbb with hb1 hb2; subst hb1; subst hb2
        exact ⟨hg1.cell h1 (by simp), hg1.cell h2 (by simp)⟩
      obtain ⟨w2, hr2, ho2, hg2⟩ := run_append_fits (P := Try.prog) w1 W.heap.size 22 22 44 i0 2 Try.underlying22 hi hz1 W.heap.size 0 (a.length + 1) [] ho1 ⟨b, off, none⟩ a.length p (flat2 a) (flat2_len a) (rg_news hc') (flat2_one a) (by omega)
      rw [Nat.zero_add, List.nil_append] at ho2
      rw [Nat.zero_add] at hr2
      exact ⟨w2, hr2, ho2, hB1.grown hg2 hB1.size (fun k hk => by injection hk with hk; omega)⟩
  obtain ⟨w2, hr2, ho2, hB2⟩ := h2
  have h3 := run_append_fits (P := Try.prog) (w2.alloc (.cells #[.int .i64 7, .int .i64 0] 44)) W.heap.size 22 22 44 i0 2 Try.underlying22 hi hz1 W.heap.size a.length (a.length + 1) (flat2 a) (ho2.alloc _) ⟨w2.heap.size, 0, none⟩ 1 1 [.int .i64 7, .int .i64 0] rfl (World.news_of_block (cs := #[.int .i64 7, .int .i64 0]) (heap_alloc_new w2 _)) (by simp [Value.oneCell']) (by omega)
  obtain ⟨w3, hr3, ho3, hg3⟩ := h3
  have hB3 := (hB2.alloc hB2.size (.cells #[.int .i64 7, .int .i64 0] 44)).grown hg3 (by have := hB2.size; simp; omega) (fun k hk => by injection hk with hk; omega)
  have HO3 := Lib.hid ho3
  have HB3 := Lib.hid hB3
  have HR2 := Lib.hid hr2
  have HR3 := Lib.hid hr3
  push_cast at hr1
  clear hB1 hc hw ho1 hg1 ho2 hB2 ho3 hg3 hB3 hr2 hr3
  go_enter Try.func9, Try.ntmps9
  go_wp2_with (at_builtin; first
    | (refine wpList_append_run (by rfl) (.tmp 6) (.tmp 7) 22 (by rfl) (.slice (some ⟨W.heap.size, 0, none⟩) 0 (a.length + 1)) (.slice a0 a.length p) (.slice (some ⟨W.heap.size, 0, none⟩) a.length (a.length + 1)) w2 (by rfl) (by rfl) HR2.out ?_)
    | (refine wpList_append_run (by rfl) (.tmp 8) (.tmp 10) 22 (by rfl) (.slice (some ⟨W.heap.size, 0, none⟩) a.length (a.length + 1)) (.slice (some ⟨w2.heap.size, 0, none⟩) 1 1) (.slice (some ⟨W.heap.size, 0, none⟩) (a.length + 1) (a.length + 1)) w3 (by rfl) (by rfl) HR3.out ?_))
  go_ret
  refine ⟨W.heap.size, a.length + 1, Nat.le_refl _, rfl, ?_, HB3.out⟩
  unfold RgOwn
  rw [List.length_append, flat2_snoc]
  exact HO3.out
end Go.Proofs.Ytfopcgbfbedcjaa
