/- The contract of utf.Decode: it reads what the plain mathematics reads. -/
import Derived.Test.YtjeebamllahgkaaUtfA
import Derived.Lib.Hide
import Derived.Deep.QuietTactic
import Derived.BigQuiet
import Derived.Laws.BitsLemmas
namespace Go.Proofs.Ytjeebamllahgkaa
open Go.RowKit
theorem ret_two {k : IntKind} {a b c d : Int} (h : a = b) (h' : c = d) : Ending.returned (.tuple #[.int k a, .int k c]) = .returned (.tuple #[.int k b, .int k d]) := by rw [h, h']
/-- 'x & 0xC0' says whether x is a later byte of an encoding. -/
theorem and192 (x : Nat) (h : x < 256) : bits .and .u8 (x : Int) 192 = (x : Int) / 64 * 64 := by
  revert h; revert x; decide +kernel
theorem and63 (x : Nat) (h : x < 256) : bits .and .u8 (x : Int) 63 = (x : Int) % 64 := by
  revert h; revert x; decide +kernel
theorem toList_ne {s : ByteArray} (h : 0 < s.size) : s.toList.isEmpty = false ∧ ¬ s.toList = [] := by
  have : s.toList.length = s.size := by rw [ByteArray.toList_eq]; exact Array.length_toList
  refine ⟨?_, fun e => by rw [e] at this; simp at this; omega⟩
  rw [List.isEmpty_eq_false_iff]; intro e; rw [e] at this; simp at this; omega
theorem toList_e {s : ByteArray} (h : s.size = 0) : s.toList.isEmpty = true ∧ s.toList = [] := by
  have : s.toList.length = s.size := by rw [ByteArray.toList_eq]; exact Array.length_toList
  have e : s.toList = [] := List.eq_nil_of_length_eq_zero (by omega)
  exact ⟨by rw [e]; rfl, e⟩

def DecPost (s : ByteArray) (w : World) (e : Ending) (w' : World) : Prop :=
  e = .returned (.tuple #[.int .i64 (Utf.dec (Utf.nums s)).1, .int .i64 (Utf.dec (Utf.nums s)).2]) ∧ ∃ n, w' = w.drewN n
theorem decPost_mk {s : ByteArray} {w : World} {a b : Int} {n : Nat} (h : Utf.dec (Utf.nums s) = (a, b)) : DecPost s w (.returned (.tuple #[.int .i64 a, .int .i64 b])) (w.drewN n) := by
  unfold DecPost; rw [h]; exact ⟨rfl, n, rfl⟩
theorem decPost_mk0 {s : ByteArray} {w : World} {a b : Int} (h : Utf.dec (Utf.nums s) = (a, b)) : DecPost s w (.returned (.tuple #[.int .i64 a, .int .i64 b])) w := by
  unfold DecPost; rw [h]; exact ⟨rfl, 0, rfl⟩

set_option maxRecDepth 100000 in
set_option maxHeartbeats 400000 in
theorem decode_any (s : ByteArray) (hs : s.size ≤ maxLen) (w : World) : Calls Try.prog 11 #[.string s] w (DecPost s w) := by
  unfold maxLen at hs
  by_cases h0 : 0 < s.size
  · obtain ⟨hne, hne2⟩ := toList_ne h0
    have hat := Utf.nums_at s 0 h0
    have hnil : Utf.nums s ≠ [] := by rw [Ne, Utf.nums_nil]; omega
    obtain ⟨n, hn⟩ : ∃ n : Nat, Utf.ann ((s[0].toNat : Nat) : Int) = n := ⟨(Utf.ann ((s[0].toNat : Nat) : Int)).toNat, by have := Utf.ann_bd ((s[0].toNat : Nat) : Int); omega⟩
    have hn4 : n ≤ 4 := by have := Utf.ann_bd ((s[0].toNat : Nat) : Int); omega
    have hb : s[0].toNat < 256 := UInt8.toNat_lt _
    have HN := Lib.hid hn
    have HT := Lib.hid hat
    have HI := Lib.hid hnil
    by_cases hn0 : n = 0
    · have HB := Lib.hid (Utf.dec_bad1 (Utf.nums s) hnil (.inl (by rw [hat, hn, hn0]; rfl)))
      subst hn0
      clear hn hat hnil
      go_enter Try.func11, Try.ntmps11
      go_wp2_with (go_at_call 25; refine (announced_any _ _).mono ?_; rintro e w' ⟨rfl, rfl⟩; rw [HN.out])
      go_ret2
      exact decPost_mk0 HB.out
    · have hz : ((n : Int) == 0) = false := by simp; omega
      by_cases hl : n ≤ s.size
      · have hmb := Utf.mark_bd n
        have hacc : ∀ k, k ≤ 4 → 0 ≤ Utf.acc (Utf.nums s) (Utf.mark n) k ∧ Utf.acc (Utf.nums s) (Utf.mark n) k ≤ 67108863 := by
          intro k hk
          have := Utf.acc_bd (Utf.nums s) (Utf.nums_bytes s) k hk
          rw [hat, hn] at this
          exact this
        have HA := Lib.hid hacc
        have hsub : (s[0].toNat : Int) - Utf.mark n = Utf.acc (Utf.nums s) (Utf.mark n) 1 := by
          rw [Utf.acc1, hat]
        have HS := Lib.hid hsub
        clear hn hat hacc hsub hnil
        go_enter Try.func11, Try.ntmps11
        go_wp2_with (go_at_call 25; refine (announced_any _ _).mono ?_; rintro e w' ⟨rfl, rfl⟩; rw [HN.out])
        go_quiet ((go_at_call 26; exact Calls.quiet_of_same ((mark_any _ _).mono fun _ _ h => ⟨h.1, h.2.symm⟩)))
        go_wp2
        go_loop [2, 3, 4] (fun r N i => ∃ k : Nat, 1 ≤ k ∧ k ≤ n ∧ i = .int .i64 k ∧ N = .int .i64 n ∧ r = .int .i64 (Utf.acc (Utf.nums s) (Utf.mark n) k) ∧ Utf.conts (Utf.nums s) k = true) (fun _ _ i => n - (intOf i).toNat)
        case atStart => exact ⟨1, Nat.le_refl _, by omega, rfl, rfl, by rw [← HS.out], rfl⟩
        case round =>
          obtain ⟨k, hk1, hk, rfl, rfl, rfl, hc⟩ := hrel
          have ha := HA.out k (by omega)
          have HC := Lib.hid hc
          clear hc
          by_cases hkn : k < n
          · have hks : k < s.size := by omega
            have hb : s[k].toNat < 256 := UInt8.toNat_lt _
            have hand := and192 _ hb
            have hand2 := and63 _ hb
            have HK := Lib.hid (Utf.nums_at s k hks)
            go_wp2
            · go_ret2
              refine decPost_mk (Utf.dec_bad2 _ n HI.out (by rw [HT.out, HN.out]) fun h => ?_)
              have := Utf.conts_at _ n k h.1 hk1 hkn
              rw [HK.out] at this
              exact Utf.cont_no _ (by assumption) this
            · go_round
              case rel => exact ⟨k + 1, by omega, by omega, by go_num, rfl, by rw [Utf.acc_succ _ _ _ hk1, HK.out], Utf.conts_succ _ _ hk1 HC.out (by rw [HK.out]; exact Utf.cont_yes _ (by assumption))⟩
              case measure => simp [intOf]; omega
          · obtain rfl : k = n := by omega
            clear hk
            by_cases hw : Utf.width (Utf.acc (Utf.nums s) (Utf.mark k) k) = k
            · have HD := Lib.hid (Utf.dec_of (Utf.nums s) (Utf.acc (Utf.nums s) (Utf.mark k) k) k hn0 (by rw [HT.out, HN.out]) (by rw [Utf.nums_length]; exact hl) HC.out rfl hw)
              have HW := Lib.hid hw
              clear hw
              go_wp2_with (go_at_call 13; refine (width_any _ _).mono ?_; rintro e w' ⟨rfl, rfl⟩; rw [HW.out])
              go_ret2
              exact decPost_mk HD.out
            · have hwb : ((Utf.width (Utf.acc (Utf.nums s) (Utf.mark k) k) : Int) != k) = true := by simpa using hw
              have HD := Lib.hid (Utf.dec_bad2 (Utf.nums s) k HI.out (by rw [HT.out, HN.out]) fun h => hw h.2)
              clear hw
              go_wp2_with (go_at_call 13; refine (width_any _ _).mono ?_; rintro e w' ⟨rfl, rfl⟩)
              go_ret2
              exact decPost_mk HD.out
      · have HB := Lib.hid (Utf.dec_bad1 (Utf.nums s) hnil (.inr (by rw [hat, hn, Utf.nums_length]; omega)))
        clear hn hat hnil
        go_enter Try.func11, Try.ntmps11
        go_wp2_with (go_at_call 25; refine (announced_any _ _).mono ?_; rintro e w' ⟨rfl, rfl⟩; rw [HN.out])
        go_ret2
        exact decPost_mk0 HB.out
  · obtain ⟨hne, hne2⟩ := toList_e (s := s) (by omega)
    have HD : Utf.dec (Utf.nums s) = (-1, 0) := by rw [(Utf.nums_nil s).2 (by omega)]; rfl
    have HD := Lib.hid HD
    go_enter Try.func11, Try.ntmps11
    go_wp2
    go_ret2
    exact decPost_mk0 HD.out
end Go.Proofs.Ytjeebamllahgkaa
