/- The contracts of burinbook.SameRanges and of the reference's Check, Norm, Not and Count (burinref02). -/
import Derived.Test.YtimgdooelbhjfaaGreatDoorRgB
import Derived.Laws.StructEq
namespace Go.Proofs.YtimgdooelbhjfaaGreatDoor
open Go.RowKit
set_option linter.unusedVariables false
theorem take_succ_eq {α : Type} [Inhabited α] {d : α} (l m : List α) (k : Nat) (hl : k < l.length) (hm : k < m.length) :
    l.take (k + 1) = m.take (k + 1) ↔ l.take k = m.take k ∧ l[k]?.getD d = m[k]?.getD d := by
  rw [List.take_add_one, List.take_add_one, List.getElem?_eq_getElem hl, List.getElem?_eq_getElem hm]
  constructor
  · intro h
    have := List.append_inj h (by simp; omega)
    exact ⟨this.1, by simpa using this.2⟩
  · rintro ⟨h1, h2⟩
    rw [h1]
    simp only [Option.getD_some] at h2
    simp [h2]
set_option maxRecDepth 100000 in
set_option maxHeartbeats 2000000 in
theorem same_rg_walk (W : World) (a b : Option Addr) (n p q : Nat) (l m : List (Int × Int)) (hn : n ≤ 8796093022208) (hl : l.length = n) (hm : m.length = n)
    (ha : ∀ j, j < n → ∃ g off, a = some ⟨g, off, none⟩ ∧ g < W.heap.size ∧ W.cell? ⟨g, off + j * 2, none⟩ = some (.int .i64 (l[j]?.getD (0, 0)).1) ∧ W.cell? ⟨g, off + j * 2 + 1, none⟩ = some (.int .i64 (l[j]?.getD (0, 0)).2))
    (hb : ∀ j, j < n → ∃ g off, b = some ⟨g, off, none⟩ ∧ g < W.heap.size ∧ W.cell? ⟨g, off + j * 2, none⟩ = some (.int .i64 (m[j]?.getD (0, 0)).1) ∧ W.cell? ⟨g, off + j * 2 + 1, none⟩ = some (.int .i64 (m[j]?.getD (0, 0)).2)) :
    Calls Tryz.prog 13 #[.slice a n p, .slice b n q] W fun e W' => e = .returned (.bool (decide (l = m))) ∧ ∃ d, W' = W.drewN d := by
  have HA := Lib.hid ha
  have HB := Lib.hid hb
  have HL := Lib.hid hl
  have HM := Lib.hid hm
  clear ha hb hl hm
  go_enter Tryz.func13, Tryz.ntmps13
  go_wp2
  go_loopw [5, 6] (fun s i wr => ∃ (k : Nat) (S : Bool), k ≤ n ∧ i = .int .i64 k ∧ s = .bool S ∧ Hid (S = decide (l.take k = m.take k)) ∧ ∃ d, wr = W.drewN d) (fun s i _ => (n - (intOf i).toNat) + (if s matches .bool true then 1 else 0))
  case atStart => exact ⟨0, true, Nat.zero_le _, rfl, by simp, Lib.hid (by simp), 0, rfl⟩
  case round =>
    obtain ⟨k, S, hk, rfl, rfl, HS, d, rfl⟩ := hrel
    cases S with
    | false =>
      have HF : Hid (decide (l = m) = false) := Lib.hid (by rw [decide_eq_false_iff_not]; intro e; have := HS.out; rw [e] at this; simp at this)
      go_wp2
      go_ret
      exact ⟨by rw [HF.out]; rfl, _, rfl⟩
    | true =>
      by_cases hlt : k < n
      · obtain ⟨g, off, rfl, hg, hc1, hc2⟩ := HA.out k hlt
        obtain ⟨g', off', rfl, hg', hc3, hc4⟩ := HB.out k hlt
        have hkl : k < l.length := by rw [HL.out]; exact hlt
        have hkm : k < m.length := by rw [HM.out]; exact hlt
        by_cases e1 : (l[k]?.getD (0, 0)).1 = (m[k]?.getD (0, 0)).1
        · by_cases e2 : (l[k]?.getD (0, 0)).2 = (m[k]?.getD (0, 0)).2
          · have HT : Hid (true = decide (l.take (k + 1) = m.take (k + 1))) := Lib.hid (by
              have := HS.out
              simp only [Eq.comm (a := true), decide_eq_true_eq] at this ⊢
              exact (take_succ_eq l m k hkl hkm).mpr ⟨this, Prod.ext e1 e2⟩)
            clear hkl hkm
            go_wp2
            go_quiet (fail)
            go_wp2
            go_round
            case rel => exact ⟨k + 1, true, by omega, by go_num, rfl, HT, _, rfl⟩
            case measure => simp [intOf]; omega
          · have HT : Hid (false = decide (l.take (k + 1) = m.take (k + 1))) := Lib.hid (by
              symm; rw [decide_eq_false_iff_not]; intro e
              exact e2 (congrArg Prod.snd ((take_succ_eq l m k hkl hkm).mp e).2))
            clear hkl hkm
            go_wp2
            go_quiet (fail)
            go_wp2
            go_round
            case rel => exact ⟨k + 1, false, by omega, by go_num, rfl, HT, _, rfl⟩
            case measure => simp [intOf]; omega
        · have HT : Hid (false = decide (l.take (k + 1) = m.take (k + 1))) := Lib.hid (by
            symm; rw [decide_eq_false_iff_not]; intro e
            exact e1 (congrArg Prod.fst ((take_succ_eq l m k hkl hkm).mp e).2))
          clear hkl hkm
          go_wp2
          go_quiet (fail)
          go_wp2
          go_round
          case rel => exact ⟨k + 1, false, by omega, by go_num, rfl, HT, _, rfl⟩
          case measure => simp [intOf]; omega
      · obtain rfl : k = n := by omega
        have HE : Hid (decide (l = m) = true) := Lib.hid (by
          have := HS.out
          rw [List.take_of_length_le (by rw [HL.out]; exact Nat.le_refl _), List.take_of_length_le (by rw [HM.out]; exact Nat.le_refl _)] at this
          exact this.symm)
        go_wp2
        go_ret
        exact ⟨by rw [HE.out]; rfl, _, rfl⟩
end Go.Proofs.YtimgdooelbhjfaaGreatDoor
