/- The reference's fold (burinref03): the contract of Next; burinbook.SameInts on rows. -/
import Derived.Test.YtbccaljfofnepaaRf3D
namespace Go.Proofs.Ytbccaljfofnepaa
open Go.RowKit
set_option linter.unusedVariables false
set_option maxRecDepth 100000 in
set_option maxHeartbeats 2000000 in
theorem next_any (W : World) (r : Int) :
    Calls Try.prog 13 #[.int .i64 r] W fun e w' => e = .returned (.int .i64 (Fd.nextL (Fd.fam r) r)) ∧ Below W.heap.size W w' := by
  have hfam := family_any W r
  have hfl := Fd.fam_len r
  obtain ⟨l, hl⟩ : ∃ l, Fd.fam r = l := ⟨_, rfl⟩
  rw [hl] at hfam hfl ⊢
  have HFAM := Lib.hid hfam
  clear hfam hl
  go_enter Try.func13, Try.ntmps13
  go_wp2_with fail
  refine HFAM.out.mono ?_
  rintro e w1 ⟨v, rfl, hr, _, hb⟩
  obtain ⟨a, cap, rfl, h1, h2, hc⟩ := hr
  have HC := Lib.hid hc
  have HB := Lib.hid hb
  obtain ⟨n, hn⟩ : ∃ n, l.length = n := ⟨_, rfl⟩
  have HN := Lib.hid hn
  rw [hn] at HC hfl h1 ⊢
  obtain ⟨n1, n3⟩ := hfl
  clear hc hb hn
  go_wp2
  go_loop [2, 4] (fun R I => ∃ k : Nat, k ≤ n ∧ I = .int .i64 k ∧ Hid (((l.take k).find? fun x => decide (r < x)) = none)) (fun _ I => n - (intOf I).toNat)
  case atStart => exact ⟨0, Nat.zero_le _, rfl, Lib.hid rfl⟩
  case round =>
    obtain ⟨k, hk, rfl, HF⟩ := hrel
    by_cases hlt : k < n
    · obtain ⟨b, rfl, hb, hx⟩ := HC.out k hlt
      have hf := Fd.find_take_none l k (by rw [HN.out]; exact hlt) r HF.out
      obtain ⟨x, ex⟩ : ∃ x, l[k]?.getD 0 = x := ⟨_, rfl⟩
      rw [ex] at hx hf
      have HF1 : Hid (r < x → Fd.nextL l r = x) := Lib.hid (fun h => by unfold Fd.nextL; rw [hf.1 h]; rfl)
      have HF2 := Lib.hid hf.2
      clear ex hf
      by_cases hrx : r < x
      · have HE := Lib.hid (HF1.out hrx)
        go_wp2
        go_ret
        exact ⟨by rw [HE.out]; rfl, HB.out⟩
      · have HE := Lib.hid (HF2.out hrx)
        go_wp2
        go_round
        case rel => exact ⟨k + 1, by omega, by go_num, HE⟩
        case measure => simp [intOf]; omega
    · obtain rfl : k = n := by omega
      obtain ⟨b, rfl, hb, hx⟩ := HC.out 0 (by omega)
      have hF := HF.out
      rw [List.take_of_length_le (by rw [HN.out]; exact Nat.le_refl _)] at hF
      have HE : Hid (Fd.nextL l r = l[0]?.getD 0) := Lib.hid (by unfold Fd.nextL; rw [hF]; rfl)
      obtain ⟨x, ex⟩ : ∃ x, l[0]?.getD 0 = x := ⟨_, rfl⟩
      rw [ex] at hx HE
      have k1 : (0 : Int) < (k : Int) := by omega
      clear ex hF
      go_wp2
      go_ret
      exact ⟨by rw [HE.out]; rfl, HB.out⟩
theorem take_succ_int (l m : List Int) (k : Nat) (hl : k < l.length) (hm : k < m.length) :
    l.take (k + 1) = m.take (k + 1) ↔ l.take k = m.take k ∧ l[k]?.getD 0 = m[k]?.getD 0 := take_succ_eq l m k hl hm
set_option maxRecDepth 100000 in
set_option maxHeartbeats 2000000 in
theorem same_int_walk (W : World) (a b : Option Addr) (n p q : Nat) (l m : List Int) (hn : n ≤ 8796093022208) (hl : l.length = n) (hm : m.length = n)
    (ha : ∀ j, j < n → ∃ g, a = some ⟨g, 0, none⟩ ∧ g < W.heap.size ∧ W.cell? ⟨g, j, none⟩ = some (.int .i64 (l[j]?.getD 0)))
    (hb : ∀ j, j < n → ∃ g, b = some ⟨g, 0, none⟩ ∧ g < W.heap.size ∧ W.cell? ⟨g, j, none⟩ = some (.int .i64 (m[j]?.getD 0))) :
    Calls Try.prog 10 #[.slice a n p, .slice b n q] W fun e W' => e = .returned (.bool (decide (l = m))) ∧ ∃ d, W' = W.drewN d := by
  have HA := Lib.hid ha
  have HB := Lib.hid hb
  have HL := Lib.hid hl
  have HM := Lib.hid hm
  clear ha hb hl hm
  go_enter Try.func10, Try.ntmps10
  go_wp2
  go_loopw [5, 6] (fun s i wr => ∃ (k : Nat) (S : Bool), k ≤ n ∧ i = .int .i64 k ∧ s = .bool S ∧ Hid (S = decide (l.take k = m.take k)) ∧ ∃ d, wr = W.drewN d) (fun s i _ => (n - (intOf i).toNat) + (if s matches .bool true then 1 else 0))
  case atStart => exact ⟨0, true, Nat.zero_le _, rfl, by simp, Lib.hid (by simp), 0, rfl⟩
  case round =>
    obtain ⟨k, S, hk, rfl, rfl, HS, d, rfl⟩ := hrel
    cases S with
    | false =>
      have HF : Hid (decide (l = m) = false) := Lib.hid (by rw [decide_eq_false_iff_not]; intro e; have := HS.out; rw [e] at this; simp at this)
      go_wp2
      go_ret
      exact ⟨by rw [HF.out]; rfl, _, rfl⟩
    | true =>
      by_cases hlt : k < n
      · obtain ⟨g, rfl, hg, hc1⟩ := HA.out k hlt
        obtain ⟨g', rfl, hg', hc3⟩ := HB.out k hlt
        have hT := take_succ_int l m k (by rw [HL.out]; exact hlt) (by rw [HM.out]; exact hlt)
        obtain ⟨x, ex⟩ : ∃ x, l[k]?.getD 0 = x := ⟨_, rfl⟩
        obtain ⟨y, ey⟩ : ∃ y, m[k]?.getD 0 = y := ⟨_, rfl⟩
        rw [ex] at hc1 hT
        rw [ey] at hc3 hT
        have HTT := Lib.hid hT
        have k0 : (0 : Int) ≤ (k : Int) := by omega
        have k1 : (k : Int) < (n : Int) := by omega
        clear ex ey hT
        by_cases e1 : x = y
        · have HT : Hid (true = decide (l.take (k + 1) = m.take (k + 1))) := Lib.hid (by
            have := HS.out
            simp only [Eq.comm (a := true), decide_eq_true_eq] at this ⊢
            exact HTT.out.mpr ⟨this, e1⟩)
          have hq : (x == y) = true := by rw [e1]; simp
          clear e1
          go_wp2
          go_quiet (fail)
          go_wp2
          go_round
          case rel => exact ⟨k + 1, true, by omega, by go_num, rfl, HT, _, rfl⟩
          case measure => simp [intOf]; omega
        · have HT : Hid (false = decide (l.take (k + 1) = m.take (k + 1))) := Lib.hid (by
            symm; rw [decide_eq_false_iff_not]; intro e
            exact e1 (HTT.out.mp e).2)
          have hq : (x == y) = false := beq_eq_false_iff_ne.2 e1
          clear e1
          go_wp2
          go_quiet (fail)
          go_wp2
          go_round
          case rel => exact ⟨k + 1, false, by omega, by go_num, rfl, HT, _, rfl⟩
          case measure => simp [intOf]; omega
      · obtain rfl : k = n := by omega
        have HE : Hid (decide (l = m) = true) := Lib.hid (by
          have := HS.out
          rw [List.take_of_length_le (by rw [HL.out]; exact Nat.le_refl _), List.take_of_length_le (by rw [HM.out]; exact Nat.le_refl _)] at this
          exact this.symm)
        go_wp2
        go_ret
        exact ⟨by rw [HE.out]; rfl, _, rfl⟩
set_option maxRecDepth 100000 in
set_option maxHeartbeats 2000000 in
theorem same_int_len (W : World) (a b : Option Addr) (n m p q : Nat) (hn : n ≤ 8796093022208) (hm : m ≤ 8796093022208) (hne : n ≠ m) :
    Calls Try.prog 10 #[.slice a n p, .slice b m q] W fun e W' => e = .returned (.bool false) ∧ ∃ d, W' = W.drewN d := by
  have hne' : ¬ (n : Int) = (m : Int) := by omega
  go_enter Try.func10, Try.ntmps10
  go_wp2
  refine wp_loop_rounds 1 ?_
  rw [rounds_succ]
  go_wp2
  go_ret
  exact ⟨congrArg (fun b => Ending.returned (.bool b)) (beq_eq_false_iff_ne.2 hne'), 0, rfl⟩
theorem same_int (W : World) (va vb : Value) (l m : List Int) (ha : IRow W va l) (hb : IRow W vb m) (hl : l.length ≤ 8796093022208) (hm : m.length ≤ 8796093022208) :
    Calls Try.prog 10 #[va, vb] W fun e W' => e = .returned (.bool (decide (l = m))) ∧ ∃ d, W' = W.drewN d := by
  obtain ⟨a, p, rfl, _, _, hca⟩ := ha
  obtain ⟨b, q, rfl, _, _, hcb⟩ := hb
  by_cases e : l.length = m.length
  · rw [← e] at hcb ⊢
    exact same_int_walk W a b _ p q l m hl rfl e.symm hca hcb
  · rw [decide_eq_false (fun h => e (by rw [h]))]
    exact same_int_len W a b _ _ p q hl hm e
end Go.Proofs.Ytbccaljfofnepaa
