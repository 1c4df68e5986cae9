/- The landed verify: slotsExist. -/
import Derived.Test.YtchcjinaagncjaaDoorGp15
namespace Go.Proofs.YtchcjinaagncjaaDoor
open Go.RowKit
set_option linter.unusedVariables false
set_option linter.unusedSimpArgs false
namespace Pgm
/-- A slot that is not there. -/
def badS (sl : Int) (i : In) : Bool := decide (i.op = 3) && (decide (i.lo < 2) || decide (sl ≤ i.lo))
set_option maxRecDepth 100000 in
set_option maxHeartbeats 4000000 in
theorem miss_any (i : In) (B : Nat) (sl : Int) (w : World) (hB : B < w.heap.size) (hc : w.cell? ⟨B, 2, none⟩ = some (.int .i64 sl)) :
    Calls Tryd.prog 80 #[.agg #[.int .i64 i.op, .int .i64 i.lo, .int .i64 i.hi, .int .i64 i.x, .int .i64 i.y], .pointer (some ⟨B, 0, none⟩)] w fun e w' => e = .returned (.bool (badS sl i)) ∧ Below w.heap.size w w' := by
  obtain ⟨W1, hW1⟩ : ∃ W1, w.alloc (.cells #[.int .i64 i.op, .int .i64 i.lo, .int .i64 i.hi, .int .i64 i.x, .int .i64 i.y] 60) = W1 := ⟨_, rfl⟩
  have hx := inst_block w i
  have hb1 : Below w.heap.size w W1 := by rw [← hW1]; exact (Below.refl _ _).alloc (Nat.le_refl _) _
  rw [hW1] at hx
  have hc1 : W1.cell? ⟨B, 2, none⟩ = some (.int .i64 sl) := (hb1.cell (p := ⟨B, 2, none⟩) hB).trans hc
  have HW1 := Lib.hid hW1
  have HB1 := Lib.hid hb1
  have b0 := blkp hx 0
  have b1 := blkp hx 1
  simp only [List.getElem?_toArray, List.getElem?_cons_zero, List.getElem?_cons_succ] at b0 b1
  have hne : ¬ B = w.heap.size := by omega
  obtain ⟨R, hR⟩ : ∃ R, badS sl i = R := ⟨_, rfl⟩
  have HR := Lib.hid hR
  rw [hR]
  unfold badS at HR
  clear hx hb1 hW1 hR
  by_cases h3 : i.op = 3
  · rw [h3] at b0 HW1 ⊢
    rw [decide_eq_true h3, Bool.true_and] at HR
    clear h3
    by_cases h2 : i.lo < 2
    · rw [decide_eq_true h2, Bool.true_or] at HR
      have h2' : i.lo < 2 := h2
      go_enter Tryd.func80, Tryd.ntmps80
      go_wp2
      go_ret
      exact ⟨retv_bool HR.out, by rw [HW1.out]; exact HB1.out⟩
    · rw [decide_eq_false h2, Bool.false_or] at HR
      have h2' : ¬ i.lo < 2 := h2
      by_cases h4 : sl ≤ i.lo
      · rw [decide_eq_true h4] at HR
        have h4' : ¬ i.lo < sl := by omega
        go_enter Tryd.func80, Tryd.ntmps80
        go_wp2
        go_ret
        exact ⟨retv_bool HR.out, by rw [HW1.out]; exact HB1.out⟩
      · rw [decide_eq_false h4] at HR
        have h4' : i.lo < sl := by omega
        go_enter Tryd.func80, Tryd.ntmps80
        go_wp2
        go_ret
        exact ⟨retv_bool (by rw [← HR.out]), by rw [HW1.out]; exact HB1.out⟩
  · rw [decide_eq_false h3, Bool.false_and] at HR
    go_enter Tryd.func80, Tryd.ntmps80
    go_wp2
    go_ret
    exact ⟨retv_bool HR.out, by rw [HW1.out]; exact HB1.out⟩
set_option maxRecDepth 100000 in
set_option maxHeartbeats 4000000 in
theorem idxn_any (l : List In) (sl : Int) (vs : Value) (W : World) (hr : InRow W vs l) (hl4 : l.length ≤ 4000) (B : Nat) (hB : B < W.heap.size) (hcB : W.cell? ⟨B, 2, none⟩ = some (.int .i64 sl)) :
    Calls Tryd.prog 104 #[vs, .func (.func 80) #[] #[.pointer (some ⟨B, 0, none⟩)]] W
      fun e w' => ∃ z : Int, e = .returned (.int .i64 z) ∧ decide (0 ≤ z) = l.any (badS sl) ∧ Below W.heap.size W w' := by
  obtain ⟨a, cap, rfl, hl, hbd, hc⟩ := hr
  obtain ⟨n, hn⟩ : ∃ n, l.length = n := ⟨_, rfl⟩
  have HN := Lib.hid hn
  have HC := Lib.hid hc
  have HCB := Lib.hid hcB
  have HMI := Lib.hid (fun i w h1 h2 => miss_any i B sl w h1 h2)
  rw [hn] at hl4 ⊢
  have n0 : (0 : Int) ≤ (n : Int) := by omega
  clear hn hc hbd hl hcB
  go_enter Tryd.func104, Tryd.ntmps104
  go_wp2
  go_loopw [5, 8] (fun _ i wr => ∃ k : Nat, k ≤ n ∧ i = .int .i64 k ∧ Hid ((l.take k).any (badS sl) = false) ∧ Hid (Below W.heap.size W wr)) (fun _ i _ => n - (intOf i).toNat)
  case atStart => exact ⟨0, Nat.zero_le _, rfl, Lib.hid rfl, Lib.hid (Below.refl _ _)⟩
  case round =>
    obtain ⟨k, hk, rfl, HA, HB⟩ := hrel
    by_cases hlt : k < n
    · have hkl : k < l.length := by rw [HN.out]; exact hlt
      obtain ⟨b, off, rfl, hbl, hcc⟩ := HC.out k hkl
      have HS := Lib.hid (any_snoc hkl (badS sl))
      have HY := Lib.hid (any_at (f := badS sl) hkl)
      obtain ⟨y, hy⟩ : ∃ y, l[k] = y := ⟨_, rfl⟩
      rw [hy] at hcc HS HY
      have kc : ∀ q, q < 5 → wr.cell? ⟨b, off + k * 5 + q, none⟩ = y.cs[q]? := fun q hq => (HB.out.cell (p := ⟨b, off + k * 5 + q, none⟩) hbl).trans (hcc q hq)
      have q0 := kc 0 (by omega)
      have q1 := kc 1 (by omega)
      have q2 := kc 2 (by omega)
      have q3 := kc 3 (by omega)
      have q4 := kc 4 (by omega)
      simp only [In.cs, List.getElem?_cons_zero, List.getElem?_cons_succ, Nat.add_zero] at q0 q1 q2 q3 q4
      have HM := Lib.hid (HMI.out y wr (Nat.lt_of_lt_of_le hB HB.out.size) ((HB.out.cell (p := ⟨B, 2, none⟩) hB).trans HCB.out))
      have k0 : (0 : Int) ≤ (k : Int) := by omega
      have k1 : (k : Int) < (n : Int) := by omega
      obtain ⟨Z, hZ⟩ : ∃ Z, badS sl y = Z := ⟨_, rfl⟩
      rw [hZ] at HM HS HY
      clear hZ kc hcc hy hkl
      cases Z with
      | true =>
        have HR := Lib.hid (HY.out rfl)
        go_wp2_with fail
        refine HM.out.mono ?_
        rintro e w5 ⟨rfl, hb5⟩
        have HB5 := Lib.hid (HB.out.trans (hb5.mono HB.out.size))
        clear hb5 q0 q1 q2 q3 q4
        go_wp2
        go_ret
        exact ⟨(k : Int), rfl, by rw [HR.out]; simp, HB5.out⟩
      | false =>
        have HR : Hid ((l.take (k + 1)).any (badS sl) = false) := Lib.hid (by rw [HS.out, HA.out]; rfl)
        go_wp2_with fail
        refine HM.out.mono ?_
        rintro e w5 ⟨rfl, hb5⟩
        have HB5 := Lib.hid (HB.out.trans (hb5.mono HB.out.size))
        clear hb5 q0 q1 q2 q3 q4
        go_wp2
        go_roundw
        case rel => first | exact ⟨k + 1, by omega, by go_num, HR, HB5⟩ | ((repeat apply Exists.intro); exact ⟨⟨k + 1, by omega, by go_num, HR, HB5⟩, rfl⟩)
        case measure => simp [intOf]; omega
    · obtain rfl : k = n := by omega
      have HR : Hid (l.any (badS sl) = false) := Lib.hid (by rw [← HA.out, List.take_of_length_le (by rw [HN.out]; exact Nat.le_refl _)])
      go_wp2
      go_ret
      exact ⟨-1, rfl, by rw [HR.out]; decide, HB.out⟩
set_option maxRecDepth 100000 in
set_option maxHeartbeats 4000000 in
theorem hasn_any (l : List In) (sl : Int) (vs : Value) (W : World) (hr : InRow W vs l) (hl4 : l.length ≤ 4000) (B : Nat) (hB : B < W.heap.size) (hcB : W.cell? ⟨B, 2, none⟩ = some (.int .i64 sl)) :
    Calls Tryd.prog 81 #[vs, .func (.func 80) #[] #[.pointer (some ⟨B, 0, none⟩)]] W
      fun e w' => e = .returned (.bool (l.any (badS sl))) ∧ Below W.heap.size W w' := by
  have HI := Lib.hid (idxn_any l sl vs W hr hl4 B hB hcB)
  obtain ⟨a, cap, rfl, _⟩ := hr
  obtain ⟨X, hX⟩ : ∃ X, l.any (badS sl) = X := ⟨_, rfl⟩
  rw [hX] at HI ⊢
  clear hX
  obtain ⟨m, hm⟩ : ∃ m, l.length = m := ⟨_, rfl⟩
  rw [hm] at HI ⊢
  clear hm hcB
  go_enter Tryd.func81, Tryd.ntmps81
  go_wp2_with fail
  refine HI.out.mono ?_
  rintro e w1 ⟨z, rfl, hz, hb⟩
  have HZ := Lib.hid hz
  have HB := Lib.hid hb
  clear hz hb
  go_wp2
  go_ret
  exact ⟨retv_bool HZ.out, HB.out⟩
/-- The slots are there. -/
def slB (l : List In) (sl : Int) : Bool := decide (2 ≤ sl) && decide (sl % 2 = 0) && !(l.any (badS sl))
set_option maxRecDepth 100000 in
set_option maxHeartbeats 8000000 in
theorem slotsExist_any (l : List In) (st sl : Int) (vs : Value) (W : World) (hr : InRow W vs l) (hl4 : l.length ≤ 4000) :
    Calls Tryd.prog 52 #[.agg #[vs, .int .i64 st, .int .i64 sl]] W fun e w' => e = .returned (.bool (slB l sl)) ∧ Below W.heap.size W w' := by
  obtain ⟨W1, hW1⟩ : ∃ W1, W.alloc (.cells #[vs, .int .i64 st, .int .i64 sl] 46) = W1 := ⟨_, rfl⟩
  have hx : W1.heap[W.heap.size]? = some (.cells #[vs, .int .i64 st, .int .i64 sl] 46 (0, 0)) := by rw [← hW1]; exact heap_alloc_new W _
  have hb1 : Below W.heap.size W W1 := by rw [← hW1]; exact (Below.refl _ _).alloc (Nat.le_refl _) _
  have c0 := blkp hx 0
  have c1 := blkp hx 1
  have c2 := blkp hx 2
  simp only [List.getElem?_toArray, List.getElem?_cons_zero, List.getElem?_cons_succ] at c0 c1 c2
  have HH := Lib.hid (hasn_any l sl vs W1 (hr.below (Nat.le_refl _) hb1) hl4 W.heap.size (Array.getElem?_eq_some_iff.1 hx).1 c2)
  obtain ⟨a, cap, rfl, _⟩ := hr
  obtain ⟨n, hn⟩ : ∃ n, l.length = n := ⟨_, rfl⟩
  rw [hn] at HH hl4 c0 hW1 ⊢
  obtain ⟨R, hR⟩ : ∃ R, slB l sl = R := ⟨_, rfl⟩
  have HR := Lib.hid hR
  rw [hR]
  unfold slB at HR
  have HW1 := Lib.hid hW1
  have HB1 := Lib.hid hb1
  clear hx hb1 hn hR hW1
  obtain ⟨X, hX⟩ : ∃ X, l.any (badS sl) = X := ⟨_, rfl⟩
  rw [hX] at HH HR
  clear hX
  by_cases h2 : 2 ≤ sl
  · have h2' : ¬ sl < 2 := by omega
    have e1 : sl.tmod 2 = sl % 2 := Int.tmod_eq_emod_of_nonneg (by omega)
    have s0 : 0 ≤ sl := by omega
    rw [decide_eq_true h2, Bool.true_and] at HR
    by_cases h0 : sl % 2 = 0
    · rw [decide_eq_true h0, Bool.true_and] at HR
      go_enter Tryd.func52, Tryd.ntmps52
      go_wp2_with fail
      rw [HW1.out]
      refine HH.out.mono ?_
      rintro e w5 ⟨rfl, hb5⟩
      have HB5 := Lib.hid (HB1.out.trans (hb5.mono HB1.out.size))
      clear hb5 c0 c1 c2
      go_wp2
      go_ret
      exact ⟨retv_bool HR.out, HB5.out⟩
    · rw [decide_eq_false h0, Bool.false_and] at HR
      go_enter Tryd.func52, Tryd.ntmps52
      go_wp2
      go_ret
      exact ⟨retv_bool HR.out, by rw [HW1.out]; exact HB1.out⟩
  · rw [decide_eq_false h2, Bool.false_and, Bool.false_and] at HR
    have h2' : sl < 2 := by omega
    go_enter Tryd.func52, Tryd.ntmps52
    go_wp2
    go_ret
    exact ⟨retv_bool HR.out, by rw [HW1.out]; exact HB1.out⟩
end Pgm
end Go.Proofs.YtchcjinaagncjaaDoor
