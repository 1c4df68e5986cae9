/- The contract of the reference's Decode (burinref01). · The reference's bands (burinref05): the contract of all. -/
import Derived.Test.YtfopcgbfbedcjaaGp13
import Derived.Test.YtfopcgbfbedcjaaGp8
namespace Go.Proofs.Ytfopcgbfbedcjaa
open Go.RowKit
set_option linter.unusedVariables false
theorem said_any (s : ByteArray) (hs : s.size ≤ 140737488351232) (k : Nat) (h1 : 1 ≤ k) (h4 : k ≤ 4) (hk : k ≤ s.size) (w : World) : Calls Try.prog 60 #[.string s, .int .i64 k] w fun e w' =>
    e = .returned (.int .i64 (Utf.saidN (Utf.nums s) k)) ∧ ∃ j, w' = w.drewN j := by
  rcases (by omega : k = 1 ∨ k = 2 ∨ k = 3 ∨ k = 4) with rfl | rfl | rfl | rfl
  · refine (said1 s hs hk w).mono fun e w' ⟨h, h'⟩ => ⟨h.trans (ret_int ?_), h'⟩
    show _ = (Utf.nums s)[0]?.getD 0
    rw [Utf.nums_at s 0 (by omega)]
  · refine (said2 s hs hk w).mono fun e w' ⟨h, h'⟩ => ⟨h.trans (ret_int ?_), h'⟩
    show _ = (Utf.nums s)[0]?.getD 0 % 32 * 64 + (Utf.nums s)[1]?.getD 0 % 64
    rw [Utf.nums_at s 0 (by omega), Utf.nums_at s 1 (by omega)]
    rfl
  · refine (said3 s hs hk w).mono fun e w' ⟨h, h'⟩ => ⟨h.trans (ret_int ?_), h'⟩
    show _ = (Utf.nums s)[0]?.getD 0 % 16 * 4096 + (Utf.nums s)[1]?.getD 0 % 64 * 64 + (Utf.nums s)[2]?.getD 0 % 64
    rw [Utf.nums_at s 0 (by omega), Utf.nums_at s 1 (by omega), Utf.nums_at s 2 (by omega)]
    rfl
  · refine (said4 s hs hk w).mono fun e w' ⟨h, h'⟩ => ⟨h.trans (ret_int ?_), h'⟩
    show _ = (Utf.nums s)[0]?.getD 0 % 8 * 262144 + (Utf.nums s)[1]?.getD 0 % 64 * 4096 + (Utf.nums s)[2]?.getD 0 % 64 * 64 + (Utf.nums s)[3]?.getD 0 % 64
    rw [Utf.nums_at s 0 (by omega), Utf.nums_at s 1 (by omega), Utf.nums_at s 2 (by omega), Utf.nums_at s 3 (by omega)]
    rfl
theorem toList_beq {s t : ByteArray} : (s.toList == t.toList) = true ↔ s = t := by
  rw [beq_iff_eq]
  constructor
  · intro e
    apply ByteArray.ext
    rw [ByteArray.toList_eq, ByteArray.toList_eq] at e
    exact Array.toList_inj.1 e
  · intro e; rw [e]
theorem strOf_take {s : ByteArray} {xs : List Int} (h : Utf.Bytes xs) (k : Nat) : strOfNums xs = s.extract 0 k ↔ xs = (Utf.nums s).take k := by
  constructor
  · intro e
    have := congrArg Utf.nums e
    rwa [nums_strOf _ h, Utf.nums_extract, List.drop_zero, Nat.sub_zero] at this
  · intro e
    apply nums_inj
    rw [nums_strOf _ h, Utf.nums_extract, List.drop_zero, Nat.sub_zero, e]
theorem hit_true {s : ByteArray} {k : Nat} (h : Utf.Hit (Utf.nums s) k) : strOfNums (Utf.encN (Utf.saidN (Utf.nums s) k)) = s.extract 0 k :=
  (strOf_take (Utf.encN_bytes _) k).2 h.2
theorem hit_false {s : ByteArray} {k : Nat} (hw : Utf.width (Utf.saidN (Utf.nums s) k) ≠ 0) (h : ¬ Utf.Hit (Utf.nums s) k) : ((strOfNums (Utf.encN (Utf.saidN (Utf.nums s) k))).toList == (s.extract 0 k).toList) = false := by
  rw [Bool.eq_false_iff]
  intro e
  exact h ⟨hw, (strOf_take (Utf.encN_bytes _) k).1 (toList_beq.1 e)⟩

theorem miss_succ {s : ByteArray} {k : Nat} (hm : ∀ j, 1 ≤ j → j < k → j ≤ s.size → ¬ Utf.Hit (Utf.nums s) j) (hn : ¬ Utf.Hit (Utf.nums s) k) :
    ∀ j, 1 ≤ j → j < k + 1 → j ≤ s.size → ¬ Utf.Hit (Utf.nums s) j := by
  intro j h h' h''
  by_cases e : j = k
  · subst e; exact hn
  · exact hm j h (by omega) h''
set_option maxRecDepth 100000 in
set_option maxHeartbeats 1000000 in
theorem refDecode_any (s : ByteArray) (hs : s.size ≤ 140737488351232) (w : World) : Calls Try.prog 54 #[.string s] w fun e w' =>
    e = .returned (.tuple #[.int .i64 (Utf.dec (Utf.nums s)).1, .int .i64 (Utf.dec (Utf.nums s)).2]) ∧ Below w.heap.size w w' := by
  by_cases h0 : 0 < s.size
  · obtain ⟨hne, hne2⟩ := toList_ne h0
    have hnil : Utf.nums s ≠ [] := by rw [Ne, Utf.nums_nil]; omega
    have HI := Lib.hid hnil
    clear hnil
    go_enter Try.func54, Try.ntmps54
    go_wp2
    go_loopw [2, 3, 4, 5, 6, 7] (fun r2 r3 N x t e wr => ∃ k : Nat, 1 ≤ k ∧ k ≤ 5 ∧ N = .int .i64 k ∧ Hid (∀ j, 1 ≤ j → j < k → j ≤ s.size → ¬ Utf.Hit (Utf.nums s) j) ∧ Below w.heap.size w wr) (fun _ _ N _ _ _ _ => 5 - (intOf N).toNat)
    case atStart => exact ⟨1, by omega, by omega, rfl, Lib.hid (fun j h h' => by omega), Below.refl _ _⟩
    case round =>
      obtain ⟨k, hk1, hk5, rfl, HM, hB⟩ := hrel
      by_cases hin : k ≤ 4 ∧ k ≤ s.size
      · obtain ⟨hk4, hks⟩ := hin
        by_cases hh : Utf.Hit (Utf.nums s) k
        · have HD := Lib.hid (Utf.hit_dec (Utf.nums s) k (by rw [Utf.nums_length]; exact hks) hh)
          have HW := Lib.hid hh.1
          have HT := Lib.hid (hit_true hh)
          clear hh
          go_wp2_with fail
          refine (said_any s hs k hk1 hk4 hks _).mono ?_
          rintro e wa ⟨rfl, nq, rfl⟩
          go_wp2_with fail
          refine (refEncode_yes _ HW.out _).mono ?_
          rintro e wb ⟨rfl, hbb⟩
          rw [HT.out]
          go_wp2
          go_ret2
          rw [HD.out]
          exact ⟨rfl, (hB.trans (below_drewS _ _ _)).trans (hbb.mono hB.size)⟩
        · have HN := Lib.hid hh
          by_cases hw : Utf.width (Utf.saidN (Utf.nums s) k) = 0
          · have HW := Lib.hid hw
            clear hh hw
            go_wp2_with fail
            refine (said_any s hs k hk1 hk4 hks _).mono ?_
            rintro e wa ⟨rfl, nq, rfl⟩
            go_wp2_with fail
            refine (refEncode_no _ HW.out _).mono ?_
            rintro e wb ⟨rfl, rfl⟩
            go_wp2
            go_roundw
            case rel => exact ⟨k + 1, by omega, by omega, by go_num, Lib.hid (miss_succ HM.out HN.out), hB.trans (below_drewS _ _ _)⟩
            case measure => simp [intOf]; omega
          · have HW := Lib.hid hw
            have hf := hit_false hw hh
            clear hh hw
            go_wp2_with fail
            refine (said_any s hs k hk1 hk4 hks _).mono ?_
            rintro e wa ⟨rfl, nq, rfl⟩
            go_wp2_with fail
            refine (refEncode_yes _ HW.out _).mono ?_
            rintro e wb ⟨rfl, hbb⟩
            go_wp2
            go_roundw
            case rel => exact ⟨k + 1, by omega, by omega, by go_num, Lib.hid (miss_succ HM.out HN.out), (hB.trans (below_drewS _ _ _)).trans (hbb.mono hB.size)⟩
            case measure => simp [intOf]; omega
      · have HD := Lib.hid (Utf.miss_dec (Utf.nums s) (Utf.nums_bytes s) HI.out (fun j h1 h4 hj => HM.out j h1 (by rw [Utf.nums_length] at hj; omega) (by rw [Utf.nums_length] at hj; exact hj)))
        by_cases hk4 : k ≤ 4
        · have hks : ¬ k ≤ s.size := fun h => hin ⟨hk4, h⟩
          clear hin
          have hks' : s.size < k := by omega
          go_wp2
          go_ret2
          rw [HD.out]
          exact ⟨rfl, hB⟩
        · clear hin
          go_wp2
          go_ret2
          rw [HD.out]
          exact ⟨rfl, hB⟩
  · obtain ⟨hne, hne2⟩ := toList_e (s := s) (by omega)
    have HD : Utf.dec (Utf.nums s) = (-1, 0) := by rw [(Utf.nums_nil s).2 (by omega)]; rfl
    have HD := Lib.hid HD
    go_enter Try.func54, Try.ntmps54
    go_wp2
    go_ret2
    rw [HD.out]
    exact ⟨rfl, Below.refl _ _⟩
end Go.Proofs.Ytfopcgbfbedcjaa
namespace Go.Proofs.Ytfopcgbfbedcjaa
open Go.RowKit
set_option linter.unusedVariables false
theorem drop_all (l : List Int) (d : Nat) (p : Int → Bool) : (l.drop d).all p = true ↔ ∀ j, d ≤ j → j < l.length → p (l[j]?.getD 0) = true := by
  rw [List.all_eq_true]
  constructor
  · intro h j h1 h2
    rw [List.getElem?_eq_getElem h2]
    refine h _ ?_
    rw [List.mem_iff_getElem]
    exact ⟨j - d, by rw [List.length_drop]; omega, by rw [List.getElem_drop]; congr 1; omega⟩
  · intro h x hx
    rw [List.mem_iff_getElem] at hx
    obtain ⟨j, hj, rfl⟩ := hx
    rw [List.length_drop] at hj
    have := h (d + j) (by omega) (by omega)
    rw [List.getElem?_eq_getElem (by omega)] at this
    rw [List.getElem_drop]
    exact this
theorem last_miss {s : ByteArray} {n : Nat} {c : Int} (k : Nat) (h1 : s.size - n ≤ k) (h2 : k < s.size) (h : ((s[k].toNat : Int)) ≠ c) : Bd.lastAll (Utf.nums s) n c = false := by
  unfold Bd.lastAll
  rw [Bool.eq_false_iff, Ne, drop_all]
  intro ha
  have := ha k (by rw [Utf.nums_length]; exact h1) (by rw [Utf.nums_length]; exact h2)
  rw [Utf.nums_at s k h2, decide_eq_true_eq] at this
  exact h this
theorem last_all {s : ByteArray} {n : Nat} {c : Int} (hn : n ≤ s.size) (h : ∀ k, (hk : k < s.size) → s.size - n ≤ k → ((s[k].toNat : Int)) = c) : Bd.lastAll (Utf.nums s) n c = true := by
  unfold Bd.lastAll
  rw [drop_all]
  intro j h1 h2
  rw [Utf.nums_length] at h1 h2
  rw [Utf.nums_at s j h2, decide_eq_true_eq]
  exact h j h2 h1
set_option maxRecDepth 100000 in
set_option maxHeartbeats 2000000 in
theorem all_any (s : ByteArray) (hs : s.size ≤ 140737488351232) (n : Nat) (hn : n ≤ s.size) (c : Int) (w : World) :
    Calls Try.prog 41 #[.string s, .int .i64 n, .int .u8 c] w fun e w' => e = .returned (.bool (Bd.lastAll (Utf.nums s) n c)) ∧ w = w' := by
  have hsub : (s.size : Int) - (n : Int) = ((s.size - n : Nat) : Int) := by omega
  go_enter Try.func41, Try.ntmps41
  go_wp2
  go_loop [7] (fun I => ∃ k : Nat, k ≤ n ∧ I = .int .i64 ((s.size - n + k : Nat) : Int) ∧ Hid (∀ j, (hj : j < s.size) → s.size - n ≤ j → j < s.size - n + k → ((s[j].toNat : Int)) = c)) (fun I => s.size - (intOf I).toNat)
  case atStart => exact ⟨0, Nat.zero_le _, rfl, Lib.hid (fun j hj h1 h2 => by omega)⟩
  case round =>
    obtain ⟨k, hk, rfl, HP⟩ := hrel
    obtain ⟨x, hx⟩ : ∃ x, s.size - n + k = x := ⟨_, rfl⟩
    rw [hx] at HP ⊢
    have HX := Lib.hid hx
    by_cases hlt : k < n
    · have h1 : x < s.size := by omega
      have h1' : (x : Int) < (s.size : Int) := by omega
      have h0' : (0 : Int) ≤ (x : Int) := by omega
      by_cases he : (s[x].toNat : Int) = c
      · have q : ((s[x].toNat : Int) != c) = false := by rw [he]; simp
        have HP2 : Hid (∀ j, (hj : j < s.size) → s.size - n ≤ j → j < x + 1 → ((s[j].toNat : Int)) = c) := Lib.hid (fun j hj h1 h2 => by
          by_cases e : j = x
          · subst e; exact he
          · exact HP.out j hj h1 (by omega))
        clear he hx
        go_wp2
        go_round
        case rel => exact ⟨k + 1, by omega, by have := HX.out; go_num, by rw [show s.size - n + (k + 1) = x + 1 from by have := HX.out; omega]; exact HP2⟩
        case measure => simp [intOf]; omega
      · have q : ((s[x].toNat : Int) != c) = true := by simpa using he
        have HF := Lib.hid (last_miss (n := n) x (by omega) h1 he)
        clear he hx
        go_wp2
        go_ret
        exact ⟨by rw [HF.out]; rfl, rfl⟩
    · have h1 : x = s.size := by omega
      have h1' : ¬ (x : Int) < (s.size : Int) := by omega
      have HF := Lib.hid (last_all (c := c) hn (fun j hj h2 => HP.out j hj h2 (by omega)))
      clear h1 hx
      go_wp2
      go_ret
      exact ⟨by rw [HF.out]; rfl, rfl⟩
end Go.Proofs.Ytfopcgbfbedcjaa
