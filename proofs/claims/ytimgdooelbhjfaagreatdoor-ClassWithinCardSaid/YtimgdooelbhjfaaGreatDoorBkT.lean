/- burinbook.SameTexts on lists of texts in memory. -/
import Derived.Test.YtimgdooelbhjfaaGreatDoorRgI
namespace Go.Proofs.YtimgdooelbhjfaaGreatDoor
open Go.RowKit
set_option linter.unusedVariables false
/-- A value that reads as a list of texts (their bytes). -/
def TRow (W : World) (v : Value) (L : List (List UInt8)) : Prop :=
  ∃ a cap, v = .slice a L.length cap ∧ L.length ≤ cap ∧ cap ≤ 9223372036854775807 ∧ ∀ j, j < L.length → ∃ b s, a = some ⟨b, 0, none⟩ ∧ b < W.heap.size ∧ W.cell? ⟨b, j, none⟩ = some (.string s) ∧ s.toList = L[j]?.getD []
theorem TRow.below {W W' : World} {v : Value} {L : List (List UInt8)} (h : TRow W v L) {B : Nat} (hB : W.heap.size ≤ B) (hb : Below B W W') : TRow W' v L := by
  obtain ⟨a, cap, hv, h1, h2, hc⟩ := h
  refine ⟨a, cap, hv, h1, h2, fun j hj => ?_⟩
  obtain ⟨b, s, ha, hlt, hcell, hs⟩ := hc j hj
  exact ⟨b, s, ha, Nat.lt_of_lt_of_le hlt hb.size, (hb.cell (p := ⟨b, j, none⟩) (by show b < B; omega)).trans hcell, hs⟩
theorem take_succ_txt (l m : List (List UInt8)) (k : Nat) (hl : k < l.length) (hm : k < m.length) :
    l.take (k + 1) = m.take (k + 1) ↔ l.take k = m.take k ∧ l[k]?.getD [] = m[k]?.getD [] := by
  rw [List.take_succ_eq_append_getElem hl, List.take_succ_eq_append_getElem hm, List.getElem?_eq_getElem hl, List.getElem?_eq_getElem hm]
  constructor
  · intro h
    have := List.append_inj' h (by simp)
    exact ⟨this.1, by simpa using this.2⟩
  · rintro ⟨h1, h2⟩
    rw [h1]
    have : l[k] = m[k] := by simpa using h2
    rw [this]
set_option maxRecDepth 100000 in
set_option maxHeartbeats 2000000 in
theorem same_txt_walk (W : World) (a b : Option Addr) (n p q : Nat) (l m : List (List UInt8)) (hn : n ≤ 8796093022208) (hl : l.length = n) (hm : m.length = n)
    (ha : ∀ j, j < n → ∃ g s, a = some ⟨g, 0, none⟩ ∧ g < W.heap.size ∧ W.cell? ⟨g, j, none⟩ = some (.string s) ∧ s.toList = l[j]?.getD [])
    (hb : ∀ j, j < n → ∃ g s, b = some ⟨g, 0, none⟩ ∧ g < W.heap.size ∧ W.cell? ⟨g, j, none⟩ = some (.string s) ∧ s.toList = m[j]?.getD []) :
    Calls Tryz.prog 14 #[.slice a n p, .slice b n q] W fun e W' => e = .returned (.bool (decide (l = m))) ∧ ∃ d, W' = W.drewN d := by
  have HA := Lib.hid ha
  have HB := Lib.hid hb
  have HL := Lib.hid hl
  have HM := Lib.hid hm
  clear ha hb hl hm
  go_enter Tryz.func14, Tryz.ntmps14
  go_wp2
  go_loopw [5, 6] (fun s i wr => ∃ (k : Nat) (S : Bool), k ≤ n ∧ i = .int .i64 k ∧ s = .bool S ∧ Hid (S = decide (l.take k = m.take k)) ∧ ∃ d, wr = W.drewN d) (fun s i _ => (n - (intOf i).toNat) + (if s matches .bool true then 1 else 0))
  case atStart => exact ⟨0, true, Nat.zero_le _, rfl, by simp, Lib.hid (by simp), 0, rfl⟩
  case round =>
    obtain ⟨k, S, hk, rfl, rfl, HS, d, rfl⟩ := hrel
    cases S with
    | false =>
      have HF : Hid (decide (l = m) = false) := Lib.hid (by rw [decide_eq_false_iff_not]; intro e; have := HS.out; rw [e] at this; simp at this)
      go_wp2
      go_ret
      exact ⟨by rw [HF.out]; rfl, _, rfl⟩
    | true =>
      by_cases hlt : k < n
      · obtain ⟨g, x, rfl, hg, hc1, hx⟩ := HA.out k hlt
        obtain ⟨g', y, rfl, hg', hc3, hy⟩ := HB.out k hlt
        have hT := take_succ_txt l m k (by rw [HL.out]; exact hlt) (by rw [HM.out]; exact hlt)
        rw [← hx, ← hy] at hT
        have HTT := Lib.hid hT
        have k0 : (0 : Int) ≤ (k : Int) := by omega
        have k1 : (k : Int) < (n : Int) := by omega
        clear hT hx hy
        by_cases e1 : x.toList = y.toList
        · have HT : Hid (true = decide (l.take (k + 1) = m.take (k + 1))) := Lib.hid (by
            have := HS.out
            simp only [Eq.comm (a := true), decide_eq_true_eq] at this ⊢
            exact HTT.out.mpr ⟨this, e1⟩)
          have hq : (x.toList == y.toList) = true := by rw [e1]; simp
          clear e1
          go_wp2
          go_quiet (fail)
          go_wp2
          go_round
          case rel => exact ⟨k + 1, true, by omega, by go_num, rfl, HT, _, rfl⟩
          case measure => simp [intOf]; omega
        · have HT : Hid (false = decide (l.take (k + 1) = m.take (k + 1))) := Lib.hid (by
            symm; rw [decide_eq_false_iff_not]; intro e
            exact e1 (HTT.out.mp e).2)
          have hq : (x.toList == y.toList) = false := beq_eq_false_iff_ne.2 e1
          clear e1
          go_wp2
          go_quiet (fail)
          go_wp2
          go_round
          case rel => exact ⟨k + 1, false, by omega, by go_num, rfl, HT, _, rfl⟩
          case measure => simp [intOf]; omega
      · obtain rfl : k = n := by omega
        have HE : Hid (decide (l = m) = true) := Lib.hid (by
          have := HS.out
          rw [List.take_of_length_le (by rw [HL.out]; exact Nat.le_refl _), List.take_of_length_le (by rw [HM.out]; exact Nat.le_refl _)] at this
          exact this.symm)
        go_wp2
        go_ret
        exact ⟨by rw [HE.out]; rfl, _, rfl⟩
theorem same_txt_eq (W : World) (va vb : Value) (l : List (List UInt8)) (ha : TRow W va l) (hb : TRow W vb l) (hl : l.length ≤ 8796093022208) :
    Calls Tryz.prog 14 #[va, vb] W fun e W' => e = .returned (.bool true) ∧ Below W.heap.size W W' := by
  obtain ⟨a, p, rfl, _, _, hca⟩ := ha
  obtain ⟨b, q, rfl, _, _, hcb⟩ := hb
  refine (same_txt_walk W a b _ p q l l hl rfl rfl hca hcb).mono ?_
  rintro e w' ⟨rfl, d, rfl⟩
  exact ⟨by rw [decide_eq_true rfl], below_drewN (Below.refl _ _) d⟩
end Go.Proofs.YtimgdooelbhjfaaGreatDoor
