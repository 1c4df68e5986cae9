/- The landed prog: Check. -/
import Derived.Test.YtchcjinaagncjaaDoorGp5
namespace Go.Proofs.YtchcjinaagncjaaDoor
open Go.RowKit
set_option linter.unusedVariables false
namespace Pgm
theorem chk_not {l : List In} {st sl : Int} (h : ¬ Ok l st sl) : chk l st sl = 130 := by unfold chk; rw [if_neg h]
theorem chk_ok {l : List In} {st sl : Int} (h : Ok l st sl) : chk l st sl = 0 := by unfold chk; rw [if_pos h]
theorem ret_code {a b : Int} (h : a = b) : Ending.returned (.int .i64 b) = .returned (.int .i64 a) := by rw [h]
set_option maxRecDepth 100000 in
set_option maxHeartbeats 4000000 in
theorem check_bad (a : Option Addr) (n cap : Nat) (st sl x : Int) (hx : x = 130) (W : World) (hn : n ≤ 3518437208883) (h : ¬ (1 ≤ n ∧ n ≤ 4000 ∧ 0 ≤ st ∧ st ≤ 3999 ∧ 0 ≤ sl ∧ sl ≤ 64)) :
    Calls Tryd.prog 36 #[.agg #[.slice a n cap, .int .i64 st, .int .i64 sl]] W fun e w' => e = .returned (.int .i64 x) ∧ Below W.heap.size W w' := by
  have HX := Lib.hid hx
  clear hx
  by_cases c1 : n < 1
  · clear h
    go_enter Tryd.func36, Tryd.ntmps36
    go_wp2
    go_ret
    exact ⟨ret_code HX.out, (Below.refl _ _).alloc (Nat.le_refl _) _⟩
  by_cases c2 : 4000 < n
  · clear h
    go_enter Tryd.func36, Tryd.ntmps36
    go_wp2
    go_ret
    exact ⟨ret_code HX.out, (Below.refl _ _).alloc (Nat.le_refl _) _⟩
  by_cases c3 : st < 0
  · clear h
    go_enter Tryd.func36, Tryd.ntmps36
    go_wp2
    go_ret
    exact ⟨ret_code HX.out, (Below.refl _ _).alloc (Nat.le_refl _) _⟩
  by_cases c4 : 3999 < st
  · clear h
    go_enter Tryd.func36, Tryd.ntmps36
    go_wp2
    go_ret
    exact ⟨ret_code HX.out, (Below.refl _ _).alloc (Nat.le_refl _) _⟩
  by_cases c5 : sl < 0
  · clear h
    go_enter Tryd.func36, Tryd.ntmps36
    go_wp2
    go_ret
    exact ⟨ret_code HX.out, (Below.refl _ _).alloc (Nat.le_refl _) _⟩
  by_cases c6 : 64 < sl
  · clear h
    go_enter Tryd.func36, Tryd.ntmps36
    go_wp2
    go_ret
    exact ⟨ret_code HX.out, (Below.refl _ _).alloc (Nat.le_refl _) _⟩
  exact absurd ⟨by omega, by omega, by omega, by omega, by omega, by omega⟩ h
set_option maxRecDepth 100000 in
set_option maxHeartbeats 4000000 in
theorem check_any (l : List In) (st sl : Int) (vs : Value) (W : World) (hr : InRow W vs l) (hE : EvO W) : Calls Tryd.prog 36 #[.agg #[vs, .int .i64 st, .int .i64 sl]] W fun e w' => e = .returned (.int .i64 (chk l st sl)) ∧ Below W.heap.size W w' := by
  obtain ⟨a, cap, rfl, hl, hbd, hc⟩ := hr
  obtain ⟨n, hn⟩ : ∃ n, l.length = n := ⟨_, rfl⟩
  by_cases hok : ¬ (1 ≤ n ∧ n ≤ 4000 ∧ 0 ≤ st ∧ st ≤ 3999 ∧ 0 ≤ sl ∧ sl ≤ 64)
  · rw [hn]
    exact check_bad a n cap st sl _ (chk_not (fun h => hok ⟨by have := h.1; omega, by have := h.2.1; omega, h.2.2.1, h.2.2.2.1, h.2.2.2.2.1, h.2.2.2.2.2.1⟩)) W (by omega) hok
  have hok := Decidable.not_not.1 hok
  have HOK : Hid (l.all fitB = true → chk l st sl = 0) := Lib.hid (fun h => chk_ok ⟨by omega, by omega, hok.2.2.1, hok.2.2.2.1, hok.2.2.2.2.1, hok.2.2.2.2.2, h⟩)
  have HNO : Hid (∀ x ∈ l, fitB x = false → chk l st sl = 130) := Lib.hid (fun x hx hf => chk_not (fun h => by
    have := List.all_eq_true.1 h.2.2.2.2.2.2 x hx
    rw [hf] at this; cases this))
  obtain ⟨h1, h2, h3, h4, h5, h6⟩ := hok
  have HC := Lib.hid hc
  have HE := Lib.hid hE
  have HN := Lib.hid hn
  rw [hn]
  have n1 : ¬ n < 1 := by omega
  have n2 : ¬ 4000 < n := by omega
  have n3 : ¬ st < 0 := by omega
  have n4 : ¬ 3999 < st := by omega
  have n5 : ¬ sl < 0 := by omega
  have n6 : ¬ 64 < sl := by omega
  obtain ⟨W1, hW1⟩ : ∃ W1, W.alloc (.cells #[.slice a n cap, .int .i64 st, .int .i64 sl] 46) = W1 := ⟨_, rfl⟩
  have HB1 : Hid (Below W.heap.size W W1) := Lib.hid (by rw [← hW1]; exact (Below.refl _ _).alloc (Nat.le_refl _) _)
  have HW1 := Lib.hid hW1
  obtain ⟨X, hX⟩ : ∃ X, chk l st sl = X := ⟨_, rfl⟩
  rw [hX] at HOK HNO ⊢
  clear hc hE hn hl hW1 hX hbd
  go_enter Tryd.func36, Tryd.ntmps36
  go_wp2
  rw [HW1.out]
  clear n1 n2 n3 n4 n5 n6
  go_loopw [38] (fun K wr => ∃ k : Nat, k ≤ n ∧ K = .int .i64 (k : Int) ∧ Hid ((l.take k).all fitB = true) ∧ Hid (Below W.heap.size W wr)) (fun K _ => n - (intOf K).toNat)
  case atStart => exact ⟨0, by omega, rfl, Lib.hid (by simp), HB1⟩
  case round =>
    obtain ⟨k, hk, rfl, HA, HB⟩ := hrel
    by_cases hlt : k < n
    · have hkl : k < l.length := by rw [HN.out]; exact hlt
      obtain ⟨b, off, rfl, hbl, hcc⟩ := HC.out k hkl
      obtain ⟨y, hy⟩ : ∃ y, l[k] = y := ⟨_, rfl⟩
      have HY : Hid (l[k]? = some y) := Lib.hid (by rw [List.getElem?_eq_getElem hkl, hy])
      rw [hy] at hcc
      have kc : ∀ q, q < 5 → wr.cell? ⟨b, off + k * 5 + q, none⟩ = y.cs[q]? := fun q hq => (HB.out.cell (p := ⟨b, off + k * 5 + q, none⟩) hbl).trans (hcc q hq)
      have q0 := kc 0 (by omega)
      have q1 := kc 1 (by omega)
      have q2 := kc 2 (by omega)
      have q3 := kc 3 (by omega)
      have q4 := kc 4 (by omega)
      simp only [In.cs, List.getElem?_cons_zero, List.getElem?_cons_succ, Nat.add_zero] at q0 q1 q2 q3 q4
      have HFT := Lib.hid (fun w hw => fits_any y w hw)
      unfold In.v at HFT
      have hbsz : b < wr.heap.size := Nat.lt_of_lt_of_le hbl HB.out.size
      obtain ⟨w2, hw2⟩ : ∃ w2, wr.alloc (.cells #[.int .i64 y.op, .int .i64 y.lo, .int .i64 y.hi, .int .i64 y.x, .int .i64 y.y] 60) = w2 := ⟨_, rfl⟩
      have HB2 : Hid (Below W.heap.size W w2) := Lib.hid (by rw [← hw2]; exact HB.out.alloc HB.out.size _)
      have HW2 := Lib.hid hw2
      clear kc hcc hy hkl hw2
      cases hF : fitB y with
      | true =>
        rw [hF] at HFT
        have HA2 : Hid ((l.take (k + 1)).all fitB = true) := Lib.hid (by
          rw [List.take_add_one, HY.out, List.all_append, HA.out]
          simp [hF])
        clear hF
        go_wp2_with fail
        rw [HW2.out]
        refine (HFT.out _ (HE.out.below (Nat.le_refl _) HB2.out)).mono ?_
        rintro e w3 ⟨rfl, hb3⟩
        have HB3 := Lib.hid (HB2.out.trans (hb3.mono HB2.out.size))
        clear hb3 q0 q1 q2 q3 q4
        go_wp2
        go_roundw
        case rel => exact ⟨k + 1, by omega, by go_num, HA2, HB3⟩
        case measure => simp [intOf]; omega
      | false =>
        rw [hF] at HFT
        have HX := Lib.hid (HNO.out y (List.mem_of_getElem? HY.out) hF)
        clear hF
        go_wp2_with fail
        rw [HW2.out]
        refine (HFT.out _ (HE.out.below (Nat.le_refl _) HB2.out)).mono ?_
        rintro e w3 ⟨rfl, hb3⟩
        have HB3 := Lib.hid (HB2.out.trans (hb3.mono HB2.out.size))
        clear hb3 q0 q1 q2 q3 q4
        go_wp2
        go_ret
        exact ⟨ret_code HX.out, HB3.out⟩
    · obtain rfl : k = n := by omega
      have HX : Hid (X = 0) := Lib.hid (HOK.out (by
        have := HA.out
        rwa [List.take_of_length_le (by rw [HN.out]; exact Nat.le_refl _)] at this))
      go_wp2
      go_ret
      exact ⟨ret_code HX.out, HB.out⟩
end Pgm
end Go.Proofs.YtchcjinaagncjaaDoor
