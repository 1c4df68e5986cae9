/- The landed norm: isAnyOf. -/
import Derived.Test.YtanffablfgnioaaGp5
import Derived.IntWalk
namespace Go.Proofs.Ytanffablfgnioaa
open Go.RowKit
open Nm
set_option linter.unusedVariables false
set_option maxRecDepth 100000 in
set_option maxHeartbeats 4000000 in
theorem index_intsN (W : World) (b n cap : Nat) (l : List Int) (k : Int) (hn : l.length = n) (hn9 : n ≤ 100) (hc : ∀ j (h : j < l.length), W.cell? ⟨b, j, none⟩ = some (.int .i64 l[j])) :
    Calls Try.prog 71 #[.slice (some ⟨b, 0, none⟩) n cap, .int .i64 k] W fun e w' => (∃ r : Int, e = .returned (.int .i64 r) ∧ (0 ≤ r ↔ k ∈ l)) ∧ W = w' := by
  have HC := Lib.hid hc
  have HN := Lib.hid hn
  clear hc hn
  go_enter Try.func71, Try.ntmps71
  go_wp2
  go_loop [8] (fun I => ∃ i : Nat, i ≤ n ∧ I = .int .i64 (i : Int) ∧ Hid (∀ j (h : j < l.length), j < i → k ≠ l[j])) (fun I => n - (intOf I).toNat)
  case atStart => exact ⟨0, by omega, rfl, Lib.hid (fun j _ h => absurd h (by omega))⟩
  case round =>
    obtain ⟨i, hi, rfl, HNO⟩ := hrel
    by_cases hlt : i < n
    · have hil : i < l.length := by rw [HN.out]; exact hlt
      have hx := HC.out i hil
      obtain ⟨z, hz⟩ : ∃ z, l[i] = z := ⟨_, rfl⟩
      rw [hz] at hx
      have HZ := Lib.hid hz
      have k0 : (0 : Int) ≤ (i : Int) := by omega
      have k1 : (i : Int) < (n : Int) := by omega
      clear hz
      by_cases hk : k = z
      · subst hk
        go_wp2
        go_ret
        exact ⟨⟨(i : Int), rfl, fun _ => by rw [← HZ.out]; exact List.getElem_mem hil, fun _ => by omega⟩, rfl⟩
      · have hkz : (k == z) = false := by rw [beq_eq_false_iff_ne]; exact hk
        have HKZ := Lib.hid hk
        clear hk
        go_wp2
        go_round
        case rel =>
          refine ⟨i + 1, by omega, by go_num, Lib.hid (fun j hj hji => ?_)⟩
          rcases Nat.lt_or_ge j i with h | h
          · exact HNO.out j hj h
          · obtain rfl : j = i := by omega
            rw [HZ.out]; exact HKZ.out
        case measure => simp [intOf]; omega
    · obtain rfl : i = n := by omega
      go_wp2
      go_ret
      refine ⟨⟨-1, rfl, fun h => absurd h (by decide), fun h => ?_⟩, rfl⟩
      obtain ⟨j, hj, e⟩ := List.getElem_of_mem h
      exact absurd e.symm (HNO.out j hj (by rw [← HN.out]; exact hj))
set_option maxRecDepth 100000 in
set_option maxHeartbeats 4000000 in
theorem contains_intsN (W : World) (b n cap : Nat) (l : List Int) (k : Int) (hn : l.length = n) (hn9 : n ≤ 100) (hc : ∀ j (h : j < l.length), W.cell? ⟨b, j, none⟩ = some (.int .i64 l[j])) :
    Calls Try.prog 59 #[.slice (some ⟨b, 0, none⟩) n cap, .int .i64 k] W fun e w' => e = .returned (.bool (decide (k ∈ l))) ∧ W = w' := by
  have HI := Lib.hid (index_intsN W b n cap l k hn hn9 hc)
  clear hc hn
  go_enter Try.func59, Try.ntmps59
  go_wp2_with fail
  refine HI.out.mono ?_
  rintro e w' ⟨⟨r, rfl, hr⟩, rfl⟩
  have hd : decide (0 ≤ r) = decide (k ∈ l) := decide_eq_decide.2 hr
  clear hr
  go_wp2
  go_ret
  exact ⟨by first | rw [hd] | rfl, rfl⟩
set_option maxRecDepth 100000 in
set_option maxHeartbeats 4000000 in
theorem any1_any (W : World) (Bk b m c : Nat) (ks : List Int) (hks : ks.length = m) (hm9 : m ≤ 100) (hk : W.cell? ⟨Bk, 0, none⟩ = some (.slice (some ⟨b, 0, none⟩) m c)) (hBk : Bk < W.heap.size) (hb : b < W.heap.size)
    (hc : ∀ j (h : j < ks.length), W.cell? ⟨b, j, none⟩ = some (.int .i64 ks[j])) (x : Nd) (cs : List Value) (h : NdIs W x cs) :
    Calls Try.prog 58 #[.agg cs.toArray, .pointer (some ⟨Bk, 0, none⟩)] W fun e w' => e = .returned (.bool (decide (Td.kind x ∈ ks))) ∧ Below W.heap.size W w' := by
  have hb1 : Below W.heap.size W (W.alloc (.cells cs.toArray 25)) := (Below.refl W.heap.size W).alloc (Nat.le_refl _) _
  have HCT := Lib.hid (contains_intsN (W.alloc (.cells cs.toArray 25)) b m c ks (Td.kind x) hks hm9 (fun j hj => (hb1.cell (p := ⟨b, j, none⟩) hb).trans (hc j hj)))
  obtain ⟨u0, u1, u2, u3, u4, u5, u6, u7, sa, sc, a, cp, hcs, F⟩ := h.form_of
  subst hcs
  obtain ⟨rfl, rfl, rfl, rfl, rfl, rfl, rfl, rfl⟩ := F
  have HB1 := Lib.hid hb1
  clear h hc hb1 hks
  go_enter Try.func58, Try.ntmps58
  go_wp2_with fail
  refine HCT.out.mono ?_
  rintro e w' ⟨rfl, rfl⟩
  go_wp2
  go_ret
  exact ⟨rfl, HB1.out⟩
set_option maxRecDepth 100000 in
set_option maxHeartbeats 4000000 in
theorem ixfN_any (W : World) (Bk b m c : Nat) (ks : List Int) (hks : ks.length = m) (hm9 : m ≤ 100) (hk : W.cell? ⟨Bk, 0, none⟩ = some (.slice (some ⟨b, 0, none⟩) m c)) (hBk : Bk < W.heap.size) (hb : b < W.heap.size)
    (hc : ∀ j (h : j < ks.length), W.cell? ⟨b, j, none⟩ = some (.int .i64 ks[j])) (l : List Nd) (a : Option Addr) (cap : Nat) (hlen : l.length ≤ 8796093022208) (hr : RowIs W a l) :
    Calls Try.prog 70 #[.slice a l.length cap, .func (.func 58) #[] #[.pointer (some ⟨Bk, 0, none⟩)]] W
      fun e w' => ∃ r : Int, e = .returned (.int .i64 r) ∧ (decide (0 ≤ r) = l.any (fun x => decide (Td.kind x ∈ ks))) ∧ Below W.heap.size W w' := by
  have HSUB := Lib.hid hr
  have HCL := Lib.hid (fun (w : World) (hw : Below W.heap.size W w) (x : Nd) (cs : List Value) (h : NdIs w x cs) => any1_any w Bk b m c ks hks hm9 ((hw.cell (p := ⟨Bk, 0, none⟩) hBk).trans hk) (Nat.lt_of_lt_of_le hBk hw.size) (Nat.lt_of_lt_of_le hb hw.size) (fun j hj => (hw.cell (p := ⟨b, j, none⟩) hb).trans (hc j hj)) x cs h)
  obtain ⟨L, eL⟩ : ∃ L, l.length = L := ⟨_, rfl⟩
  rw [eL] at hlen
  rw [eL]
  have HL := Lib.hid eL
  clear eL hr hk hc hks hm9 hBk hb
  go_enter Try.func70, Try.ntmps70
  go_wp2
  go_loopw [5, 8] (fun jv iv wr => ∃ i : Nat, i ≤ L ∧ iv = .int .i64 (i : Int) ∧ Hid ((l.take i).any (fun x => decide (Td.kind x ∈ ks)) = false) ∧ Hid (Below W.heap.size W wr)) (fun _ iv _ => L - (intOf iv).toNat)
  case atStart => exact ⟨0, Nat.zero_le _, rfl, Lib.hid (by simp), Lib.hid (Below.refl _ _)⟩
  case round =>
    obtain ⟨i, hi, rfl, HA, HB⟩ := hrel
    by_cases hlt : i < L
    · obtain ⟨g, off, x, u0, u1, u2, u3, u4, u5, u6, u7, rfl, hb, hm, hnd, q0, q1, q2, q3, q4, q5, q6, q7⟩ := HSUB.out i (by rw [HL.out]; exact hlt)
      have hbw := HB.out
      have kc : ∀ o v, W.cell? ⟨g, o, none⟩ = some v → wr.cell? ⟨g, o, none⟩ = some v := fun o v h => (hbw.cell (p := ⟨g, o, none⟩) hb).trans h
      replace q0 := kc _ _ q0; replace q1 := kc _ _ q1; replace q2 := kc _ _ q2; replace q3 := kc _ _ q3
      replace q4 := kc _ _ q4; replace q5 := kc _ _ q5; replace q6 := kc _ _ q6; replace q7 := kc _ _ q7
      have hbl : g < wr.heap.size := Nat.lt_of_lt_of_le hb hbw.size
      have HND := Lib.hid (hnd.kept hbw)
      have HSZ := Lib.hid hbw.size
      obtain ⟨Q, hQ⟩ : ∃ Q, decide (Td.kind x ∈ ks) = Q := ⟨_, rfl⟩
      have HYES : Hid ((l.take (i + 1)).any (fun x => decide (Td.kind x ∈ ks)) = Q) := Lib.hid (by
        obtain ⟨hi2, e2⟩ := List.getElem?_eq_some_iff.1 hm
        rw [List.take_succ_eq_append_getElem hi2, List.any_append, HA.out, e2]
        simp only [List.any_cons, List.any_nil, Bool.or_false, Bool.false_or]
        exact hQ)
      have HNO : Hid (Q = true → l.any (fun x => decide (Td.kind x ∈ ks)) = true) := Lib.hid (fun e => by
        rw [List.any_eq_true]; exact ⟨x, List.mem_of_getElem? hm, by rw [hQ]; exact e⟩)
      have HQ := Lib.hid hQ
      clear kc hm hnd hbw hQ
      go_wp2_with fail
      refine (HCL.out _ HB.out x _ HND.out).mono ?_
      rintro e w5 ⟨rfl, hb5⟩
      have HB5 := Lib.hid (HB.out.trans (hb5.mono HSZ.out))
      rw [HQ.out]
      clear hb5 q0 q1 q2 q3 q4 q5 q6 q7
      cases Q with
      | false =>
        go_wp2
        go_roundw
        case rel => exact ⟨i + 1, by omega, by go_num, HYES, HB5⟩
        case measure => simp [intOf]; omega
      | true =>
        have HF := Lib.hid (HNO.out rfl)
        go_wp2
        go_ret
        exact ⟨(i : Int), rfl, by rw [HF.out]; simp, HB5.out⟩
    · obtain rfl : i = L := by omega
      have HE : Hid (l.any (fun x => decide (Td.kind x ∈ ks)) = false) := Lib.hid (by
        have := HA.out
        rwa [List.take_of_length_le (by rw [HL.out]; exact Nat.le_refl _)] at this)
      go_wp2
      go_ret
      exact ⟨-1, rfl, by rw [HE.out]; rfl, HB.out⟩
set_option maxRecDepth 100000 in
set_option maxHeartbeats 4000000 in
theorem cnfN_any (W : World) (Bk b m c : Nat) (ks : List Int) (hks : ks.length = m) (hm9 : m ≤ 100) (hk : W.cell? ⟨Bk, 0, none⟩ = some (.slice (some ⟨b, 0, none⟩) m c)) (hBk : Bk < W.heap.size) (hb : b < W.heap.size)
    (hc : ∀ j (h : j < ks.length), W.cell? ⟨b, j, none⟩ = some (.int .i64 ks[j])) (l : List Nd) (a : Option Addr) (cap : Nat) (hlen : l.length ≤ 8796093022208) (hr : RowIs W a l) :
    Calls Try.prog 56 #[.slice a l.length cap, .func (.func 58) #[] #[.pointer (some ⟨Bk, 0, none⟩)]] W
      fun e w' => e = .returned (.bool (l.any (fun x => decide (Td.kind x ∈ ks)))) ∧ Below W.heap.size W w' := by
  have HX := Lib.hid (ixfN_any W Bk b m c ks hks hm9 hk hBk hb hc l a cap hlen hr)
  clear hr hk hc hks
  go_enter Try.func56, Try.ntmps56
  go_wp2_with fail
  refine HX.out.mono ?_
  rintro e w5 ⟨r, rfl, hr, hb5⟩
  have HR := Lib.hid hr
  have HB := Lib.hid hb5
  clear hr hb5
  go_wp2
  go_ret
  exact ⟨by rw [← HR.out]; rfl, HB.out⟩
set_option maxRecDepth 100000 in
set_option maxHeartbeats 4000000 in
theorem anyOf_any (W : World) (b m c : Nat) (ks : List Int) (hks : ks.length = m) (hm9 : m ≤ 100) (hb : b < W.heap.size)
    (hc : ∀ j (h : j < ks.length), W.cell? ⟨b, j, none⟩ = some (.int .i64 ks[j])) (l : List Nd) (a : Option Addr) (cap : Nat) (hlen : l.length ≤ 8796093022208) (hr : RowIs W a l) :
    Calls Try.prog 38 #[.slice a l.length cap, .slice (some ⟨b, 0, none⟩) m c] W fun e w' => e = .returned (.bool (l.any (fun x => decide (Td.kind x ∈ ks)))) ∧ Below W.heap.size W w' := by
  obtain ⟨W1, hW1⟩ : ∃ W1, W.alloc (.cells #[.slice (some ⟨b, 0, none⟩) m c] 65) = W1 := ⟨_, rfl⟩
  have hb1 : Below W.heap.size W W1 := by rw [← hW1]; exact (Below.refl _ _).alloc (Nat.le_refl _) _
  have hk1 : W1.cell? ⟨W.heap.size, 0, none⟩ = some (.slice (some ⟨b, 0, none⟩) m c) := by rw [← hW1]; simp
  have hs1 : W.heap.size < W1.heap.size := by rw [← hW1]; simp
  have HX := Lib.hid (cnfN_any W1 W.heap.size b m c ks hks hm9 hk1 hs1 (Nat.lt_of_lt_of_le hb hb1.size) (fun j hj => (hb1.cell (p := ⟨b, j, none⟩) hb).trans (hc j hj)) l a cap hlen (hr.kept hb1))
  have HB1 := Lib.hid hb1
  have HW1 := Lib.hid hW1
  obtain ⟨L, eL⟩ : ∃ L, l.length = L := ⟨_, rfl⟩
  rw [eL] at HX ⊢
  clear hr hc hks hb1 hk1 hs1 hW1 eL hlen
  go_enter Try.func38, Try.ntmps38
  go_wp2_with fail
  rw [HW1.out]
  refine HX.out.mono ?_
  rintro e w5 ⟨rfl, hb5⟩
  have HB := Lib.hid (HB1.out.trans (hb5.mono HB1.out.size))
  clear hb5
  go_wp2
  go_ret
  exact ⟨rfl, HB.out⟩
end Go.Proofs.Ytanffablfgnioaa
