/- Strings as numbers, bits, and small laws that every text on utf or its reference uses; the reference's Width. · The contracts of the small functions of package utf and of its reference: width, first byte's mark, announced length. · The landed bands: the widths of both ends of a range; a range cut into two. · The contract of utf.Decode: it reads what the plain mathematics reads. -/
import Derived.Test.YtfopcgbfbedcjaaRows
import Derived.Test.YtfopcgbfbedcjaaGp5
import Derived.WalkKit
import Derived.OwnWalk
import Derived.WalkLawsBesides
import Derived.WalkSpells
import Derived.Lib.Hide
import Derived.Deep.QuietTactic
import Derived.BigQuiet
import Derived.Laws.BitsLemmas
import Derived.Laws.Bits128
import Derived.Laws.Rows
import Derived.Laws.BytesArg
import Derived.Laws.IdiomStrings
import Derived.Test.YtfopcgbfbedcjaaGp4
import Derived.Deep.RegionHeld3
namespace Go.Proofs.Ytfopcgbfbedcjaa
open Go.RowKit
theorem ret_int {k : IntKind} {a b : Int} (h : a = b) : Ending.returned (.int k a) = .returned (.int k b) := by rw [h]
theorem ret_two {k : IntKind} {a b c d : Int} (h : a = b) (h' : c = d) : Ending.returned (.tuple #[.int k a, .int k c]) = .returned (.tuple #[.int k b, .int k d]) := by rw [h, h']
/-- 'x & 0xC0' says whether x is a later byte of an encoding. -/
theorem and192 (x : Nat) (h : x < 256) : bits .and .u8 (x : Int) 192 = (x : Int) / 64 * 64 := by
  revert h; revert x; decide +kernel
theorem and63 (x : Nat) (h : x < 256) : bits .and .u8 (x : Int) 63 = (x : Int) % 64 := by
  revert h; revert x; decide +kernel
theorem toList_ne {s : ByteArray} (h : 0 < s.size) : s.toList.isEmpty = false ∧ ¬ s.toList = [] := by
  have : s.toList.length = s.size := by rw [ByteArray.toList_eq]; exact Array.length_toList
  refine ⟨?_, fun e => by rw [e] at this; simp at this; omega⟩
  rw [List.isEmpty_eq_false_iff]; intro e; rw [e] at this; simp at this; omega
theorem toList_e {s : ByteArray} (h : s.size = 0) : s.toList.isEmpty = true ∧ s.toList = [] := by
  have : s.toList.length = s.size := by rw [ByteArray.toList_eq]; exact Array.length_toList
  have e : s.toList = [] := List.eq_nil_of_length_eq_zero (by omega)
  exact ⟨by rw [e]; rfl, e⟩
theorem i64_and63 (n : Int) : bits .and .i64 n 63 = n % 64 := by
  have h63 : (BitVec.ofInt 64 63).toNat = 2 ^ 6 - 1 := by decide
  have key : (BitVec.ofInt 64 n &&& BitVec.ofInt 64 63).toNat = (n % ((2 ^ 64 : Nat) : Int)).toNat % 2 ^ 6 := by
    rw [BitVec.toNat_and, BitVec.toNat_ofInt, h63, Nat.and_two_pow_sub_one_eq_mod]
  show IntKind.i64.wrap ((BitVec.ofInt 64 n &&& BitVec.ofInt 64 63).toNat : Nat) = n % 64
  rw [key, IntKind.wrap_i64]
  omega
theorem below_drewS (w : World) (n B : Nat) : Below B w (w.drewN n) := ⟨rfl, rfl, rfl, Nat.le_refl _, fun _ _ => rfl⟩
theorem nums_append (s t : ByteArray) : Utf.nums (s ++ t) = Utf.nums s ++ Utf.nums t := by
  unfold Utf.nums; rw [ByteArray.data_append, Array.toList_append, List.map_append]
theorem nums_strOf (xs : List Int) (h : Utf.Bytes xs) : Utf.nums (strOfNums xs) = xs := by
  unfold Utf.nums strOfNums
  simp only [List.map_map]
  conv => rhs; rw [← List.map_id xs]
  apply List.map_congr_left
  intro x hx
  have := h x hx
  simp only [Function.comp, UInt8.toNat_ofNat', id]
  omega
theorem size_strOf (xs : List Int) : (strOfNums xs).size = xs.length := by
  unfold strOfNums; show (List.toArray _).size = _; simp
theorem nums_inj {s t : ByteArray} (h : Utf.nums s = Utf.nums t) : s = t := by
  apply ByteArray.ext
  apply Array.toList_inj.1
  unfold Utf.nums at h
  exact List.map_inj_right (fun a b e => UInt8.toNat_inj.1 (by exact_mod_cast e)) |>.1 h
theorem refWidth_any (r : Int) (w : World) : Calls Try.prog 53 #[.int .i64 r] w fun e w' => e = .returned (.int .i64 (Utf.width r)) ∧ w = w' := by
  go_enter Try.func53, Try.ntmps53
  go_wp2
  all_goals
    go_ret
    refine ⟨ret_int ?_, rfl⟩
    unfold Utf.width
    repeat (first | omega | rfl | split)
end Go.Proofs.Ytfopcgbfbedcjaa
namespace Go.Proofs.Ytfopcgbfbedcjaa
open Go.RowKit


theorem width_any (r : Int) (w : World) : Calls Try.prog 35 #[.int .i64 r] w fun e w' => e = .returned (.int .i64 (Utf.width r)) ∧ w = w' := by
  go_enter Try.func35, Try.ntmps35
  go_wp2
  all_goals
    go_ret
    refine ⟨ret_int ?_, rfl⟩
    unfold Utf.width
    repeat (first | omega | rfl | split)
theorem announced_any (r : Int) (w : World) : Calls Try.prog 33 #[.int .u8 r] w fun e w' => e = .returned (.int .i64 (Utf.ann r)) ∧ w = w' := by
  go_enter Try.func33, Try.ntmps33
  go_wp2
  all_goals
    go_ret
    refine ⟨ret_int ?_, rfl⟩
    unfold Utf.ann
    repeat (first | omega | rfl | split)
theorem mark_any (r : Int) (w : World) : Calls Try.prog 34 #[.int .i64 r] w fun e w' => e = .returned (.int .i64 (Utf.mark r)) ∧ w = w' := by
  go_enter Try.func34, Try.ntmps34
  go_wp2
  all_goals
    go_ret
    refine ⟨ret_int ?_, rfl⟩
    unfold Utf.mark
    simp_all
end Go.Proofs.Ytfopcgbfbedcjaa
namespace Go.Proofs.Ytfopcgbfbedcjaa
open Go.RowKit
set_option linter.unusedVariables false
set_option maxRecDepth 100000 in
set_option maxHeartbeats 1000000 in
theorem widths_any (W : World) (lo hi : Int) : Calls Try.prog 45 #[.agg #[.int .i64 lo, .int .i64 hi]] W fun e w' =>
    e = .returned (.agg #[.int .i64 (Utf.width lo), .int .i64 (Utf.width hi)]) ∧ Below W.heap.size W w' := by
  have mixed : Try.prog.follows .mixedOrders = true := by kernel_rfl
  go_enter Try.func45, Try.ntmps45
  go_wp2
  go_region_held3 (fun w' => w'.cell? ⟨W.heap.size, 0, none⟩ = some (.int .i64 lo) ∧ w'.cell? ⟨W.heap.size, 1, none⟩ = some (.int .i64 hi))
    (first | assumption | go_keep)
    (first
      | (go_at_call 35; refine (width_any _ _).mono ?_; rintro e w ⟨rfl, rfl⟩))
  go_wp2
  refine bodyPost_ret (v := .agg #[.int .i64 (Utf.width lo), .int .i64 (Utf.width hi)]) ?_ rfl ⟨rfl, below_drewN (((Below.refl W.heap.size W).alloc (Nat.le_refl _) _).alloc (by simp) _) 1⟩
  simp [results, Try.results45, go_sem]
theorem RgOwn.two {w : World} {base g : Nat} {x y z u : Int} (hb : base ≤ w.heap.size) (hg : g = w.heap.size) : RgOwn (w.alloc (.cells #[.int .i64 x, .int .i64 y, .int .i64 z, .int .i64 u] 44)) base (.slice (some ⟨g, 0, none⟩) 2 2) [(x, y), (z, u)] :=
  ⟨rfl, .inr ⟨g, 2, _, rfl, by omega, by rw [hg]; exact heap_alloc_new _ _, Nat.le_refl _, by decide, rfl, rfl⟩⟩
set_option maxRecDepth 100000 in
set_option maxHeartbeats 1000000 in
theorem cut_any (W : World) (lo hi m : Int) (hm : -9223372036854775808 ≤ m ∧ m < 9223372036854775807) : Calls Try.prog 46 #[.agg #[.int .i64 lo, .int .i64 hi], .int .i64 m] W fun e w' =>
    ∃ v, e = .returned v ∧ RgOwn w' W.heap.size v [(m + 1, hi), (lo, m)] ∧ Below W.heap.size W w' := by
  go_enter Try.func46, Try.ntmps46
  go_wp2
  go_ret
  exact ⟨_, rfl, RgOwn.two (w := W.alloc _) (base := W.heap.size) (g := W.heap.size + 1) (by simp) (by simp), ((Below.refl W.heap.size W).alloc (Nat.le_refl _) _).alloc (by simp) _⟩
end Go.Proofs.Ytfopcgbfbedcjaa
namespace Go.Proofs.Ytfopcgbfbedcjaa
open Go.RowKit
def DecPost (s : ByteArray) (w : World) (e : Ending) (w' : World) : Prop :=
  e = .returned (.tuple #[.int .i64 (Utf.dec (Utf.nums s)).1, .int .i64 (Utf.dec (Utf.nums s)).2]) ∧ ∃ n, w' = w.drewN n
theorem decPost_mk {s : ByteArray} {w : World} {a b : Int} {n : Nat} (h : Utf.dec (Utf.nums s) = (a, b)) : DecPost s w (.returned (.tuple #[.int .i64 a, .int .i64 b])) (w.drewN n) := by
  unfold DecPost; rw [h]; exact ⟨rfl, n, rfl⟩
theorem decPost_mk0 {s : ByteArray} {w : World} {a b : Int} (h : Utf.dec (Utf.nums s) = (a, b)) : DecPost s w (.returned (.tuple #[.int .i64 a, .int .i64 b])) w := by
  unfold DecPost; rw [h]; exact ⟨rfl, 0, rfl⟩

set_option maxRecDepth 100000 in
set_option maxHeartbeats 400000 in
theorem decode_any (s : ByteArray) (hs : s.size ≤ maxLen) (w : World) : Calls Try.prog 22 #[.string s] w (DecPost s w) := by
  unfold maxLen at hs
  by_cases h0 : 0 < s.size
  · obtain ⟨hne, hne2⟩ := toList_ne h0
    have hat := Utf.nums_at s 0 h0
    have hnil : Utf.nums s ≠ [] := by rw [Ne, Utf.nums_nil]; omega
    obtain ⟨n, hn⟩ : ∃ n : Nat, Utf.ann ((s[0].toNat : Nat) : Int) = n := ⟨(Utf.ann ((s[0].toNat : Nat) : Int)).toNat, by have := Utf.ann_bd ((s[0].toNat : Nat) : Int); omega⟩
    have hn4 : n ≤ 4 := by have := Utf.ann_bd ((s[0].toNat : Nat) : Int); omega
    have hb : s[0].toNat < 256 := UInt8.toNat_lt _
    have HN := Lib.hid hn
    have HT := Lib.hid hat
    have HI := Lib.hid hnil
    by_cases hn0 : n = 0
    · have HB := Lib.hid (Utf.dec_bad1 (Utf.nums s) hnil (.inl (by rw [hat, hn, hn0]; rfl)))
      subst hn0
      clear hn hat hnil
      go_enter Try.func22, Try.ntmps22
      go_wp2_with (go_at_call 33; refine (announced_any _ _).mono ?_; rintro e w' ⟨rfl, rfl⟩; rw [HN.out])
      go_ret2
      exact decPost_mk0 HB.out
    · have hz : ((n : Int) == 0) = false := by simp; omega
      by_cases hl : n ≤ s.size
      · have hmb := Utf.mark_bd n
        have hacc : ∀ k, k ≤ 4 → 0 ≤ Utf.acc (Utf.nums s) (Utf.mark n) k ∧ Utf.acc (Utf.nums s) (Utf.mark n) k ≤ 67108863 := by
          intro k hk
          have := Utf.acc_bd (Utf.nums s) (Utf.nums_bytes s) k hk
          rw [hat, hn] at this
          exact this
        have HA := Lib.hid hacc
        have hsub : (s[0].toNat : Int) - Utf.mark n = Utf.acc (Utf.nums s) (Utf.mark n) 1 := by
          rw [Utf.acc1, hat]
        have HS := Lib.hid hsub
        clear hn hat hacc hsub hnil
        go_enter Try.func22, Try.ntmps22
        go_wp2_with (go_at_call 33; refine (announced_any _ _).mono ?_; rintro e w' ⟨rfl, rfl⟩; rw [HN.out])
        go_quiet ((go_at_call 34; exact Calls.quiet_of_same ((mark_any _ _).mono fun _ _ h => ⟨h.1, h.2.symm⟩)))
        go_wp2
        go_loop [2, 3, 4] (fun r N i => ∃ k : Nat, 1 ≤ k ∧ k ≤ n ∧ i = .int .i64 k ∧ N = .int .i64 n ∧ r = .int .i64 (Utf.acc (Utf.nums s) (Utf.mark n) k) ∧ Utf.conts (Utf.nums s) k = true) (fun _ _ i => n - (intOf i).toNat)
        case atStart => exact ⟨1, Nat.le_refl _, by omega, rfl, rfl, by rw [← HS.out], rfl⟩
        case round =>
          obtain ⟨k, hk1, hk, rfl, rfl, rfl, hc⟩ := hrel
          have ha := HA.out k (by omega)
          have HC := Lib.hid hc
          clear hc
          by_cases hkn : k < n
          · have hks : k < s.size := by omega
            have hb : s[k].toNat < 256 := UInt8.toNat_lt _
            have hand := and192 _ hb
            have hand2 := and63 _ hb
            have HK := Lib.hid (Utf.nums_at s k hks)
            go_wp2
            · go_ret2
              refine decPost_mk (Utf.dec_bad2 _ n HI.out (by rw [HT.out, HN.out]) fun h => ?_)
              have := Utf.conts_at _ n k h.1 hk1 hkn
              rw [HK.out] at this
              exact Utf.cont_no _ (by assumption) this
            · go_round
              case rel => exact ⟨k + 1, by omega, by omega, by go_num, rfl, by rw [Utf.acc_succ _ _ _ hk1, HK.out], Utf.conts_succ _ _ hk1 HC.out (by rw [HK.out]; exact Utf.cont_yes _ (by assumption))⟩
              case measure => simp [intOf]; omega
          · obtain rfl : k = n := by omega
            clear hk
            by_cases hw : Utf.width (Utf.acc (Utf.nums s) (Utf.mark k) k) = k
            · have HD := Lib.hid (Utf.dec_of (Utf.nums s) (Utf.acc (Utf.nums s) (Utf.mark k) k) k hn0 (by rw [HT.out, HN.out]) (by rw [Utf.nums_length]; exact hl) HC.out rfl hw)
              have HW := Lib.hid hw
              clear hw
              go_wp2_with (go_at_call 35; refine (width_any _ _).mono ?_; rintro e w' ⟨rfl, rfl⟩; rw [HW.out])
              go_ret2
              exact decPost_mk HD.out
            · have hwb : ((Utf.width (Utf.acc (Utf.nums s) (Utf.mark k) k) : Int) != k) = true := by simpa using hw
              have HD := Lib.hid (Utf.dec_bad2 (Utf.nums s) k HI.out (by rw [HT.out, HN.out]) fun h => hw h.2)
              clear hw
              go_wp2_with (go_at_call 35; refine (width_any _ _).mono ?_; rintro e w' ⟨rfl, rfl⟩)
              go_ret2
              exact decPost_mk HD.out
      · have HB := Lib.hid (Utf.dec_bad1 (Utf.nums s) hnil (.inr (by rw [hat, hn, Utf.nums_length]; omega)))
        clear hn hat hnil
        go_enter Try.func22, Try.ntmps22
        go_wp2_with (go_at_call 33; refine (announced_any _ _).mono ?_; rintro e w' ⟨rfl, rfl⟩; rw [HN.out])
        go_ret2
        exact decPost_mk0 HB.out
  · obtain ⟨hne, hne2⟩ := toList_e (s := s) (by omega)
    have HD : Utf.dec (Utf.nums s) = (-1, 0) := by rw [(Utf.nums_nil s).2 (by omega)]; rfl
    have HD := Lib.hid HD
    go_enter Try.func22, Try.ntmps22
    go_wp2
    go_ret2
    exact decPost_mk0 HD.out
end Go.Proofs.Ytfopcgbfbedcjaa
