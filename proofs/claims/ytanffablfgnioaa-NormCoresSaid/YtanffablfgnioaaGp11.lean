/- The landed tree: isDigit, isLetter, isCount, Name. · A region that draws its order, whose operations only read and whose callees make memory of their own: walked once, in the class of the worlds that have turned nothing old. -/
import Derived.Test.YtanffablfgnioaaGp9
import Derived.Test.YtanffablfgnioaaGp2
import Derived.Deep.QuietTactic
namespace Go.Proofs.Ytanffablfgnioaa
open Go.RowKit
set_option linter.unusedVariables false
set_option maxRecDepth 100000 in
set_option maxHeartbeats 2000000 in
theorem isDigit_any (W : World) (c : Int) (h0 : 0 ≤ c) (h1 : c ≤ 255) : Calls Try.prog 66 #[.int .u8 c] W fun e w' => e = .returned (.bool (decide (48 ≤ c ∧ c ≤ 57))) ∧ W = w' := by
  by_cases a : 48 ≤ c
  · by_cases b : c ≤ 57
    · rw [decide_eq_true (show 48 ≤ c ∧ c ≤ 57 from ⟨a, b⟩)]
      go_enter Try.func66, Try.ntmps66
      go_wp2
      go_ret
      exact ⟨rfl, rfl⟩
    · rw [decide_eq_false (show ¬ (48 ≤ c ∧ c ≤ 57) from fun h => b h.2)]
      go_enter Try.func66, Try.ntmps66
      go_wp2
      go_ret
      exact ⟨rfl, rfl⟩
  · rw [decide_eq_false (show ¬ (48 ≤ c ∧ c ≤ 57) from fun h => a h.1)]
    go_enter Try.func66, Try.ntmps66
    go_wp2
    go_ret
    exact ⟨rfl, rfl⟩
set_option maxRecDepth 100000 in
set_option maxHeartbeats 2000000 in
theorem isCount_any (W : World) (c : Int) : Calls Try.prog 50 #[.int .i64 c] W fun e w' => e = .returned (.bool (decide (0 ≤ c ∧ c ≤ 1000))) ∧ W = w' := by
  by_cases a : 0 ≤ c
  · by_cases b : c ≤ 1000
    · rw [decide_eq_true (show 0 ≤ c ∧ c ≤ 1000 from ⟨a, b⟩)]
      go_enter Try.func50, Try.ntmps50
      go_wp2
      go_ret
      exact ⟨rfl, rfl⟩
    · rw [decide_eq_false (show ¬ (0 ≤ c ∧ c ≤ 1000) from fun h => b h.2)]
      go_enter Try.func50, Try.ntmps50
      go_wp2
      go_ret
      exact ⟨rfl, rfl⟩
  · rw [decide_eq_false (show ¬ (0 ≤ c ∧ c ≤ 1000) from fun h => a h.1)]
    go_enter Try.func50, Try.ntmps50
    go_wp2
    go_ret
    exact ⟨rfl, rfl⟩
set_option maxRecDepth 100000 in
set_option maxHeartbeats 2000000 in
theorem isLetter_any (W : World) (c : Int) (h0 : 0 ≤ c) (h1 : c ≤ 255) : Calls Try.prog 67 #[.int .u8 c] W fun e w' => e = .returned (.bool (decide (65 ≤ c ∧ c ≤ 90 ∨ 97 ≤ c ∧ c ≤ 122))) ∧ W = w' := by
  by_cases a : 65 ≤ c
  · by_cases b : c ≤ 90
    · rw [decide_eq_true (show (65 ≤ c ∧ c ≤ 90 ∨ 97 ≤ c ∧ c ≤ 122) from .inl ⟨a, b⟩)]
      go_enter Try.func67, Try.ntmps67
      go_wp2
      go_ret
      exact ⟨rfl, rfl⟩
    · by_cases d : 97 ≤ c
      · by_cases f : c ≤ 122
        · rw [decide_eq_true (show (65 ≤ c ∧ c ≤ 90 ∨ 97 ≤ c ∧ c ≤ 122) from .inr ⟨d, f⟩)]
          go_enter Try.func67, Try.ntmps67
          go_wp2
          go_ret
          exact ⟨rfl, rfl⟩
        · rw [decide_eq_false (show ¬ (65 ≤ c ∧ c ≤ 90 ∨ 97 ≤ c ∧ c ≤ 122) by omega)]
          go_enter Try.func67, Try.ntmps67
          go_wp2
          go_ret
          exact ⟨rfl, rfl⟩
      · rw [decide_eq_false (show ¬ (65 ≤ c ∧ c ≤ 90 ∨ 97 ≤ c ∧ c ≤ 122) by omega)]
        go_enter Try.func67, Try.ntmps67
        go_wp2
        go_ret
        exact ⟨rfl, rfl⟩
  · have d : ¬ 97 ≤ c := by omega
    rw [decide_eq_false (show ¬ (65 ≤ c ∧ c ≤ 90 ∨ 97 ≤ c ∧ c ≤ 122) by omega)]
    go_enter Try.func67, Try.ntmps67
    go_wp2
    go_ret
    exact ⟨rfl, rfl⟩
set_option maxRecDepth 100000 in
set_option maxHeartbeats 4000000 in
theorem trName_any (W : World) (s : ByteArray) (hm : s.size ≤ 140737488351232) : Calls Try.prog 49 #[.string s] W fun e w' => e = .returned (.bool (Td.nameB s)) ∧ W = w' := by
  by_cases c1 : (s.size : Int) < 1
  · have hE : Hid (Td.nameB s = false) := Lib.hid (by
      unfold Td.nameB
      rw [decide_eq_false (by omega)]
      simp)
    go_enter Try.func49, Try.ntmps49
    go_wp2
    go_ret
    exact ⟨by rw [hE.out]; rfl, rfl⟩
  by_cases c2 : (32 : Int) < (s.size : Int)
  · have hE : Hid (Td.nameB s = false) := Lib.hid (by
      unfold Td.nameB
      rw [decide_eq_false (by omega)]
      simp)
    go_enter Try.func49, Try.ntmps49
    go_wp2
    go_ret
    exact ⟨by rw [hE.out]; rfl, rfl⟩
  have c1' : 0 < s.size := by omega
  have c1i : (0 : Int) < (s.size : Int) := by omega
  have hz : (Td.bytes s).getD 0 0 = (s[0].toNat : Int) := by rw [List.getD, Td.bytes_at s 0 c1']; rfl
  have HZ := Lib.hid hz
  have hb0 : s[0].toNat < 256 := UInt8.toNat_lt _
  clear hz
  go_enter Try.func49, Try.ntmps49
  go_wp2_with fail
  refine (isDigit_any _ _ (by omega) (by omega)).mono ?_
  rintro e w' ⟨rfl, rfl⟩
  by_cases c3 : (48 : Int) ≤ (s[0].toNat : Int) ∧ (s[0].toNat : Int) ≤ 57
  · have hE : Hid (Td.nameB s = false) := Lib.hid (by
      unfold Td.nameB
      rw [HZ.out, decide_eq_false (by omega)]
      simp)
    rw [decide_eq_true c3]
    go_wp2
    go_ret
    exact ⟨by rw [hE.out]; rfl, rfl⟩
  rw [decide_eq_false c3]
  have hE : Hid (Td.nameB s = (Td.bytes s).all Td.letC) := Lib.hid (by
    unfold Td.nameB
    rw [HZ.out, decide_eq_true (by omega)]
    simp)
  clear c3 hb0
  go_wp2
  go_loop [3, 19] (fun jv iv => ∃ k : Nat, k ≤ s.size ∧ iv = .int .i64 (k : Int) ∧ Hid (((Td.bytes s).take k).all Td.letC = true)) (fun _ iv => s.size - (intOf iv).toNat)
  case atStart => exact ⟨0, Nat.zero_le _, rfl, Lib.hid rfl⟩
  case round =>
    obtain ⟨k, hk, rfl, HAA⟩ := hrel
    by_cases hlt : k < s.size
    · have hb : s[k].toNat < 256 := UInt8.toNat_lt _
      have HK := Lib.hid (Td.bytes_at s k hlt)
      have hki : (k : Int) < (s.size : Int) := by omega
      have no : Td.letC (s[k].toNat : Int) = false → Td.nameB s = false := fun hx => by
        rw [hE.out, List.all_eq_false]
        exact ⟨_, List.mem_of_getElem? HK.out, by rw [hx]; decide⟩
      have yes : Td.letC (s[k].toNat : Int) = true → ((Td.bytes s).take (k + 1)).all Td.letC = true := fun hx => by
        obtain ⟨h, h2⟩ := List.getElem?_eq_some_iff.1 HK.out
        rw [List.take_succ_eq_append_getElem h, List.all_append, HAA.out, h2]
        simp [hx]
      have NO := Lib.hid no
      have YES := Lib.hid yes
      clear no yes
      go_wp2_with fail
      refine (isLetter_any _ _ (by omega) (by omega)).mono ?_
      rintro e w' ⟨rfl, rfl⟩
      by_cases l1 : 65 ≤ (s[k].toNat : Int) ∧ (s[k].toNat : Int) ≤ 90 ∨ 97 ≤ (s[k].toNat : Int) ∧ (s[k].toNat : Int) ≤ 122
      · have HT := Lib.hid (YES.out (by unfold Td.letC; exact decide_eq_true (by omega)))
        rw [decide_eq_true l1]
        clear l1
        go_wp2
        go_round
        case rel => exact ⟨k + 1, by omega, by go_num, HT⟩
        case measure => simp [intOf]; omega
      rw [decide_eq_false l1]
      have L1 := Lib.hid l1
      clear l1
      go_wp2_with fail
      refine (isDigit_any _ _ (by omega) (by omega)).mono ?_
      rintro e w' ⟨rfl, rfl⟩
      by_cases l2 : 48 ≤ (s[k].toNat : Int) ∧ (s[k].toNat : Int) ≤ 57
      · have HT := Lib.hid (YES.out (by unfold Td.letC; exact decide_eq_true (by omega)))
        rw [decide_eq_true l2]
        clear l2
        go_wp2
        go_round
        case rel => exact ⟨k + 1, by omega, by go_num, HT⟩
        case measure => simp [intOf]; omega
      rw [decide_eq_false l2]
      have L2 := Lib.hid l2
      clear l2
      by_cases l3 : (s[k].toNat : Int) = 95
      · have HT := Lib.hid (YES.out (by unfold Td.letC; exact decide_eq_true (by omega)))
        go_wp2
        go_round
        case rel => exact ⟨k + 1, by omega, by go_num, HT⟩
        case measure => simp [intOf]; omega
      · have HF := Lib.hid (NO.out (by unfold Td.letC; exact decide_eq_false (by have := L1.out; have := L2.out; omega)))
        go_wp2
        go_ret
        exact ⟨by rw [HF.out]; rfl, rfl⟩
    · obtain rfl : k = s.size := by omega
      have HB := Lib.hid (show Td.nameB s = true by
        have := HAA.out
        rw [List.take_of_length_le (by rw [Td.bytes_len]; exact Nat.le_refl _)] at this
        rw [hE.out, this])
      go_wp2
      go_ret
      exact ⟨by rw [HB.out]; rfl, rfl⟩
end Go.Proofs.Ytanffablfgnioaa
namespace Go.Proofs.Ytanffablfgnioaa
open Go.RowKit
set_option linter.unusedVariables false
/-- A world that has turned nothing of w's. -/
structure GrownTo (w : World) where
  W' : World
  h : Below w.heap.size w W'
instance grownToSome (w : World) : Inhabited (GrownTo w) := ⟨⟨w, Below.refl _ _⟩⟩
theorem wp_region_quiet_below {P : Program} {id : Nat} {Q : Exit → Act → World → Prop} {a : Act} {w : World} {l : List Oper} (hm : P.follows .mixedOrders = true) (hB : Region.lexB .any l.toArray = true)
    (h : wpQuiet P l.toArray (fun w' => ∃ p : GrownTo w, w' = p.W') (fun a' => ∀ w', (∃ p : GrownTo w, w' = p.W') → Q .normal a' w') l a) : (Code.region id l.toArray true).wp P Q a w :=
  wp_region_quiet (C := fun w' => ∃ p : GrownTo w, w' = p.W') hm hB ⟨⟨w.drew, below_drewNr (Below.refl _ _) 1⟩, rfl⟩ (by simpa using h)
theorem calls_grownTo {P : Program} {f : FuncId} {args : Array Value} {w : World} {p : GrownTo w} {v : Value}
    (h : Calls P f args p.W' fun e w' => e = .returned v ∧ Below p.W'.heap.size p.W' w') : Calls P f args p.W' fun e w'' => e = .returned v ∧ ∃ p' : GrownTo w, w'' = p'.W' :=
  h.mono fun _ w' ⟨he, hb⟩ => ⟨he, ⟨w', p.h.trans (hb.mono p.h.size)⟩, rfl⟩
theorem cell_grownTo {w : World} {a : Addr} {v : Value} (hb : a.block < w.heap.size) (h : w.cell? a = some v) (p : GrownTo w) : p.W'.cell? a = some v :=
  (p.h.cell hb).trans h
end Go.Proofs.Ytanffablfgnioaa
