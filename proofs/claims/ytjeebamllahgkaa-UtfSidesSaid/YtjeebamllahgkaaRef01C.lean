/- The contract of the reference's Before (burinref01). -/
import Derived.Test.YtjeebamllahgkaaUtfG
import Derived.Test.YtjeebamllahgkaaLaw01Tells
namespace Go.Proofs.Ytjeebamllahgkaa
open Go.RowKit
set_option linter.unusedVariables false
theorem refBefore_out (s : ByteArray) (a : Int) (h : a < 1 ∨ (s.size : Int) < a) (w : World) : Calls Try.prog 23 #[.string s, .int .i64 a] w fun e w' => e = .returned (.int .i64 0) ∧ w = w' := by
  by_cases h1 : a < 1
  · clear h
    go_enter Try.func23, Try.ntmps23
    go_wp2
    go_ret
    exact ⟨rfl, rfl⟩
  · have h2 : (s.size : Int) < a := by omega
    clear h
    go_enter Try.func23, Try.ntmps23
    go_wp2
    go_ret
    exact ⟨rfl, rfl⟩
theorem refEnds_dec {s : ByteArray} {a k : Nat} (hk : k ≤ a) : Utf.RefEnds (Utf.nums s) a k ↔ 0 ≤ (Utf.dec (Utf.nums (s.extract (a - k) a))).1 ∧ (Utf.dec (Utf.nums (s.extract (a - k) a))).2 = k := by
  unfold Utf.RefEnds
  rw [Utf.nums_extract, show a - (a - k) = k from by omega]
theorem refEnds_succ {l : List Int} {a k : Nat} (hm : ∀ j, 1 ≤ j → j < k → ¬ Utf.RefEnds l a j) (hn : ¬ Utf.RefEnds l a k) : ∀ j, 1 ≤ j → j < k + 1 → ¬ Utf.RefEnds l a j := by
  intro j h h'
  by_cases e : j = k
  · subst e; exact hn
  · exact hm j h (by omega)
theorem refEnds_bf {l : List Int} {a k : Nat} (hb : Utf.Bytes l) (ha : a ≤ l.length) (h1 : 1 ≤ k) (h4 : k ≤ 4) (hk : k ≤ a) (h : Utf.RefEnds l a k) (hm : ∀ j, 1 ≤ j → j < k → ¬ Utf.RefEnds l a j) : Utf.bf l a = k := by
  by_cases e : k = 1
  · subst e; exact Utf.bf_single l hb a hk ha h.1
  · exact Utf.bf_at l a k (by omega) h4 ((Utf.ref_ends l hb a k ha (by omega) hk).1 h) (fun j h2 hj he => hm j (by omega) hj ((Utf.ref_ends l hb a j ha h2 he.1).2 he))
theorem refEnds_none {l : List Int} {a : Nat} (hb : Utf.Bytes l) (ha : a ≤ l.length) (hm : ∀ j, 1 ≤ j → j ≤ 4 → j ≤ a → ¬ Utf.RefEnds l a j) : Utf.bf l a = 1 :=
  Utf.bf_none l a (fun j h2 h4 he => hm j (by omega) h4 he.1 ((Utf.ref_ends l hb a j ha h2 he.1).2 he))
set_option maxRecDepth 100000 in
set_option maxHeartbeats 2000000 in
theorem refBefore_in (s : ByteArray) (hs : s.size ≤ 140737488351232) (a : Nat) (h1 : 1 ≤ a) (h2 : a ≤ s.size) (w : World) :
    Calls Try.prog 23 #[.string s, .int .i64 a] w fun e w' => e = .returned (.int .i64 (Utf.bf (Utf.nums s) a)) ∧ Below w.heap.size w w' := by
  have hd1 : decide (s.size < a) = false := by simp; omega
  have hd2 : decide ((a : Int) < 1) = false := by simp; omega
  have hbb := Utf.nums_bytes s
  have hal : a ≤ (Utf.nums s).length := by rw [Utf.nums_length]; exact h2
  have HBB := Lib.hid hbb
  have HAL := Lib.hid hal
  clear hbb hal
  go_enter Try.func23, Try.ntmps23
  go_wp2
  go_loopw [4, 5, 6, 7] (fun r N u v wr => ∃ k : Nat, 1 ≤ k ∧ k ≤ 5 ∧ N = .int .i64 k ∧ Hid (∀ j, 1 ≤ j → j < k → j ≤ a → ¬ Utf.RefEnds (Utf.nums s) a j) ∧ Below w.heap.size w wr) (fun _ N _ _ _ => 5 - (intOf N).toNat)
  case atStart => exact ⟨1, by omega, by omega, rfl, Lib.hid (fun j h h' => by omega), Below.refl _ _⟩
  case round =>
    obtain ⟨k, hk1, hk5, rfl, HM, hB⟩ := hrel
    by_cases hin : k ≤ 4 ∧ k ≤ a
    · obtain ⟨hk4, hka⟩ := hin
      have hed := refEnds_dec (s := s) hka
      have hsz : (s.extract (a - k) a).size ≤ 140737488351232 := by rw [ByteArray.size_extract]; omega
      have HZ := Lib.hid hsz
      have hsucc : ¬ Utf.RefEnds (Utf.nums s) a k → ∀ j, 1 ≤ j → j < k + 1 → j ≤ a → ¬ Utf.RefEnds (Utf.nums s) a j := fun hn j h h' h'' => by
        by_cases e : j = k
        · subst e; exact hn
        · exact HM.out j h (by omega) h''
      have HS := Lib.hid hsucc
      clear hsucc
      obtain ⟨x, m, hd⟩ : ∃ x m, Utf.dec (Utf.nums (s.extract (a - k) a)) = (x, m) := ⟨_, _, rfl⟩
      rw [hd] at hed
      have HD := Lib.hid hd
      clear hd
      by_cases hx : 0 ≤ x
      · by_cases hmk : m = k
        · subst hmk
          have HB := Lib.hid (refEnds_bf HBB.out HAL.out hk1 hk4 hka (hed.2 ⟨hx, rfl⟩) (fun j h h' => HM.out j h h' (by omega)))
          clear hed hsz
          go_wp2_with fail
          refine (refDec_at HD.out HZ.out _).mono ?_
          rintro e wa ⟨rfl, hba⟩
          go_wp2
          go_ret
          exact ⟨ret_int (by rw [HB.out]), hB.trans (hba.mono hB.size)⟩
        · have HN := Lib.hid (HS.out (fun h => hmk (hed.1 h).2))
          have hmb : (m == (k : Int)) = false := by rw [beq_eq_false_iff_ne]; exact hmk
          clear hed hsz hmk
          go_wp2_with fail
          refine (refDec_at HD.out HZ.out _).mono ?_
          rintro e wa ⟨rfl, hba⟩
          go_wp2
          go_roundw
          case rel => exact ⟨k + 1, by omega, by omega, by go_num, HN, hB.trans (hba.mono hB.size)⟩
          case measure => simp [intOf]; omega
      · have HN := Lib.hid (HS.out (fun h => hx (hed.1 h).1))
        have hx' : x < 0 := by omega
        clear hed hsz
        go_wp2_with fail
        refine (refDec_at HD.out HZ.out _).mono ?_
        rintro e wa ⟨rfl, hba⟩
        go_wp2
        go_roundw
        case rel => exact ⟨k + 1, by omega, by omega, by go_num, HN, hB.trans (hba.mono hB.size)⟩
        case measure => simp [intOf]; omega
    · have HB := Lib.hid (refEnds_none HBB.out HAL.out (fun j hj1 hj4 hja he => HM.out j hj1 (by omega) hja he))
      by_cases h4 : k ≤ 4
      · have hka : ¬ k ≤ a := fun h => hin ⟨h4, h⟩
        have hka' : a < k := by omega
        clear hin
        go_wp2
        go_ret
        exact ⟨ret_int (by rw [HB.out]; rfl), hB⟩
      · clear hin
        go_wp2
        go_ret
        exact ⟨ret_int (by rw [HB.out]; rfl), hB⟩
end Go.Proofs.Ytjeebamllahgkaa
