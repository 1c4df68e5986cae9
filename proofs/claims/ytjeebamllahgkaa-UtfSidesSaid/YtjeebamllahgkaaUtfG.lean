/- The contract of utf.Before. -/
import Derived.Test.YtjeebamllahgkaaUtfB
import Derived.Test.YtjeebamllahgkaaUtfBeforeM
namespace Go.Proofs.Ytjeebamllahgkaa
open Go.RowKit
theorem before_out (s : ByteArray) (a : Int) (h : a < 1 ∨ (s.size : Int) < a) (w : World) : Calls Try.prog 22 #[.string s, .int .i64 a] w fun e w' => e = .returned (.int .i64 0) ∧ w = w' := by
  by_cases h1 : a < 1
  · clear h
    go_enter Try.func22, Try.ntmps22
    go_wp2
    go_ret
    exact ⟨rfl, rfl⟩
  · have h2 : (s.size : Int) < a := by omega
    clear h
    go_enter Try.func22, Try.ntmps22
    go_wp2
    go_ret
    exact ⟨rfl, rfl⟩
theorem ends_dec {s : ByteArray} {a k : Nat} (hk : k ≤ a) : Utf.EndsAt (Utf.nums s) a k ↔ (Utf.dec (Utf.nums (s.extract (a - k) a))).2 = k := by
  unfold Utf.EndsAt
  rw [Utf.nums_extract, show a - (a - k) = k from by omega]
  exact ⟨fun h => h.2, fun h => ⟨hk, h⟩⟩
theorem ends_succ {l : List Int} {a k : Nat} (hm : ∀ j, 2 ≤ j → j < k → ¬ Utf.EndsAt l a j) (hn : ¬ Utf.EndsAt l a k) : ∀ j, 2 ≤ j → j < k + 1 → ¬ Utf.EndsAt l a j := by
  intro j h h'
  by_cases e : j = k
  · subst e; exact hn
  · exact hm j h (by omega)
set_option maxRecDepth 100000 in
set_option maxHeartbeats 1000000 in
theorem before_in (s : ByteArray) (hs : s.size ≤ maxLen) (a : Nat) (h1 : 1 ≤ a) (h2 : a ≤ s.size) (w : World) :
    Calls Try.prog 22 #[.string s, .int .i64 a] w fun e w' => e = .returned (.int .i64 (Utf.bf (Utf.nums s) a)) ∧ ∃ n, w' = w.drewN n := by
  have hs' := hs
  unfold maxLen at hs'
  have hd1 : decide (s.size < a) = false := by simp; omega
  have hd2 : decide ((a : Int) < 1) = false := by simp; omega
  go_enter Try.func22, Try.ntmps22
  go_wp2
  go_loopw [4, 5, 6, 7] (fun r N u v wr => ∃ k : Nat, 2 ≤ k ∧ k ≤ 5 ∧ N = .int .i64 k ∧ Hid (∀ j, 2 ≤ j → j < k → ¬ Utf.EndsAt (Utf.nums s) a j) ∧ ∃ n, wr = w.drewN n) (fun _ N _ _ _ => 5 - (intOf N).toNat)
  case atStart => exact ⟨2, by omega, by omega, rfl, Lib.hid (fun j h h' => by omega), 0, rfl⟩
  case round =>
    obtain ⟨k, hk1, hk5, rfl, HM, nq, rfl⟩ := hrel
    by_cases hin : k ≤ 4 ∧ k ≤ a
    · obtain ⟨hk4, hka⟩ := hin
      have hed := ends_dec (s := s) hka
      have hsz : (s.extract (a - k) a).size ≤ maxLen := by rw [ByteArray.size_extract]; unfold maxLen; omega
      have HZ := Lib.hid hsz
      by_cases hh : Utf.EndsAt (Utf.nums s) a k
      · have HB := Lib.hid (Utf.bf_at _ _ _ hk1 hk4 hh HM.out)
        have HD := Lib.hid (hed.1 hh)
        clear hed hsz hh
        by_cases h4 : 4 < a
        all_goals
          go_wp2_with fail
          refine (decode_any _ HZ.out _).mono ?_
          rintro e wa ⟨rfl, nq2, rfl⟩
          rw [HD.out]
          go_wp2
          go_ret
          exact ⟨ret_int (by rw [HB.out]), _, rfl⟩
      · have HN := Lib.hid hh
        have hd : (((Utf.dec (Utf.nums (s.extract (a - k) a))).2) == (k : Int)) = false := by
          rw [beq_eq_false_iff_ne]; intro e; exact hh (hed.2 e)
        clear hed hsz hh
        by_cases h4 : 4 < a
        all_goals
          go_wp2_with fail
          refine (decode_any _ HZ.out _).mono ?_
          rintro e wa ⟨rfl, nq2, rfl⟩
          go_wp2
          go_roundw
          case rel => exact ⟨k + 1, by omega, by omega, by go_num, Lib.hid (ends_succ HM.out HN.out), _, rfl⟩
          case measure => simp [intOf]; omega
    · have HB := Lib.hid (Utf.bf_none (Utf.nums s) a (fun j h2 h4 he => HM.out j h2 (by have := he.1; omega) he))
      by_cases h4 : 4 < a
      · have hk4 : ¬ k ≤ 4 := fun h => hin ⟨h, by omega⟩
        clear hin
        go_wp2
        go_ret
        exact ⟨ret_int (by rw [HB.out]; rfl), _, rfl⟩
      · have hka : ¬ k ≤ a := fun h => hin ⟨by omega, h⟩
        clear hin
        go_wp2
        go_ret
        exact ⟨ret_int (by rw [HB.out]; rfl), _, rfl⟩
end Go.Proofs.Ytjeebamllahgkaa
