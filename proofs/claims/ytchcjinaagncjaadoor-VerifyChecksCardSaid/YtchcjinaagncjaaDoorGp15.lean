/- The landed verify: targetsExist, slotsExist. -/
import Derived.Test.YtchcjinaagncjaaDoorGp12
namespace Go.Proofs.YtchcjinaagncjaaDoor
open Go.RowKit
set_option linter.unusedVariables false
set_option linter.unusedSimpArgs false
namespace Pgm
theorem any_snoc {α : Type} {l : List α} {k : Nat} (hk : k < l.length) (f : α → Bool) : (l.take (k + 1)).any f = ((l.take k).any f || f l[k]) := by
  rw [List.take_succ_eq_append_getElem hk, List.any_append]; simp
theorem all_snoc {α : Type} {l : List α} {k : Nat} (hk : k < l.length) (f : α → Bool) : (l.take (k + 1)).all f = ((l.take k).all f && f l[k]) := by
  rw [List.take_succ_eq_append_getElem hk, List.all_append]; simp
theorem any_at {α : Type} {l : List α} {k : Nat} (hk : k < l.length) {f : α → Bool} (h : f l[k] = true) : l.any f = true := List.any_eq_true.2 ⟨_, List.getElem_mem hk, h⟩
theorem all_at {α : Type} {l : List α} {k : Nat} (hk : k < l.length) {f : α → Bool} (h : f l[k] = false) : l.all f = false := by
  rw [List.all_eq_false]; exact ⟨_, List.getElem_mem hk, by rw [h]; decide⟩
theorem retv_bool {a b : Bool} (h : a = b) : Ending.returned (.bool a) = .returned (.bool b) := by rw [h]
set_option maxRecDepth 100000 in
set_option maxHeartbeats 4000000 in
theorem missing_any (t : Int) (B n cap : Nat) (a : Option Addr) (w : World) (hc : w.cell? ⟨B, 0, none⟩ = some (.slice a n cap)) :
    Calls Tryd.prog 77 #[.int .i64 t, .pointer (some ⟨B, 0, none⟩)] w fun e w' => e = .returned (.bool (decide ((n : Int) ≤ t))) ∧ w = w' := by
  by_cases h : (n : Int) ≤ t
  · go_enter Tryd.func77, Tryd.ntmps77
    go_wp2
    go_ret
    exact ⟨retv_bool (decide_eq_true h).symm, rfl⟩
  · have h1 : ¬ (n : Int) ≤ t := h
    go_enter Tryd.func77, Tryd.ntmps77
    go_wp2
    go_ret
    exact ⟨retv_bool (by simp; omega), rfl⟩
set_option maxRecDepth 100000 in
set_option maxHeartbeats 4000000 in
theorem idxi_any (W : World) (a3 : Option Addr) (c3 : Nat) (T : List Int) (lo : Nat) (hT : Nrd W a3 T lo) (hl : T.length ≤ 2) (B n cap : Nat) (a : Option Addr) (hc : W.cell? ⟨B, 0, none⟩ = some (.slice a n cap)) :
    Calls Tryd.prog 103 #[.slice a3 T.length c3, .func (.func 77) #[] #[.pointer (some ⟨B, 0, none⟩)]] W
      fun e w' => ∃ z : Int, e = .returned (.int .i64 z) ∧ decide (0 ≤ z) = T.any (fun t => decide ((n : Int) ≤ t)) ∧ W = w' := by
  obtain ⟨m, hm⟩ : ∃ m, T.length = m := ⟨_, rfl⟩
  have HM := Lib.hid hm
  have HT := Lib.hid hT
  have HC := Lib.hid (fun t => missing_any t B n cap a W hc)
  rw [hm] at hl ⊢
  clear hm hT hc
  go_enter Tryd.func103, Tryd.ntmps103
  go_wp2
  go_loopw [5, 8] (fun _ i wr => ∃ k : Nat, k ≤ m ∧ i = .int .i64 k ∧ Hid ((T.take k).any (fun t => decide ((n : Int) ≤ t)) = false) ∧ W = wr) (fun _ i _ => m - (intOf i).toNat)
  case atStart => exact ⟨0, Nat.zero_le _, rfl, Lib.hid rfl, rfl⟩
  case round =>
    obtain ⟨k, hk, rfl, HA, rfl⟩ := hrel
    by_cases hlt : k < m
    · have hkl : k < T.length := by rw [HM.out]; exact hlt
      obtain ⟨b, rfl, hb1, hb2, hcell⟩ := HT.out k hkl
      have HS := Lib.hid (any_snoc hkl (fun t => decide ((n : Int) ≤ t)))
      have HY := Lib.hid (any_at (f := fun t => decide ((n : Int) ≤ t)) hkl)
      obtain ⟨t, ht⟩ : ∃ t, T[k] = t := ⟨_, rfl⟩
      rw [ht] at hcell HS HY
      have HCT := Lib.hid (HC.out t)
      have k0 : (0 : Int) ≤ (k : Int) := by omega
      have k1 : (k : Int) < (m : Int) := by omega
      clear ht hkl
      by_cases h : (n : Int) ≤ t
      · have HR : Hid (T.any (fun t => decide ((n : Int) ≤ t)) = true) := Lib.hid (HY.out (decide_eq_true h))
        rw [decide_eq_true h] at HCT
        clear h
        go_wp2_with fail
        refine HCT.out.mono ?_
        rintro e w5 ⟨rfl, rfl⟩
        go_wp2
        go_ret
        exact ⟨(k : Int), rfl, by rw [HR.out]; simp, rfl⟩
      · have HR : Hid ((T.take (k + 1)).any (fun t => decide ((n : Int) ≤ t)) = false) := Lib.hid (by rw [HS.out, HA.out]; simp; omega)
        rw [decide_eq_false h] at HCT
        clear h
        go_wp2_with fail
        refine HCT.out.mono ?_
        rintro e w5 ⟨rfl, rfl⟩
        go_wp2
        go_roundw
        case rel => first | exact ⟨k + 1, by omega, by go_num, HR, by first | rfl | trivial⟩ | ((repeat apply Exists.intro); exact ⟨⟨k + 1, by omega, by go_num, HR, by first | rfl | trivial⟩, rfl⟩)
        case measure => simp [intOf]; omega
    · obtain rfl : k = m := by omega
      have HR : Hid (T.any (fun t => decide ((n : Int) ≤ t)) = false) := Lib.hid (by rw [← HA.out, List.take_of_length_le (by rw [HM.out]; exact Nat.le_refl _)])
      go_wp2
      go_ret
      exact ⟨-1, rfl, by rw [HR.out]; decide, rfl⟩
set_option maxRecDepth 100000 in
set_option maxHeartbeats 4000000 in
theorem hasi_any (W : World) (a3 : Option Addr) (c3 : Nat) (T : List Int) (lo : Nat) (hT : Nrd W a3 T lo) (hl : T.length ≤ 2) (B n cap : Nat) (a : Option Addr) (hc : W.cell? ⟨B, 0, none⟩ = some (.slice a n cap)) :
    Calls Tryd.prog 78 #[.slice a3 T.length c3, .func (.func 77) #[] #[.pointer (some ⟨B, 0, none⟩)]] W
      fun e w' => e = .returned (.bool (T.any (fun t => decide ((n : Int) ≤ t)))) ∧ W = w' := by
  have HI := Lib.hid (idxi_any W a3 c3 T lo hT hl B n cap a hc)
  clear hT hl hc
  obtain ⟨X, hX⟩ : ∃ X, T.any (fun t => decide ((n : Int) ≤ t)) = X := ⟨_, rfl⟩
  rw [hX] at HI ⊢
  clear hX
  obtain ⟨m, hm⟩ : ∃ m, T.length = m := ⟨_, rfl⟩
  rw [hm] at HI ⊢
  clear hm
  go_enter Tryd.func78, Tryd.ntmps78
  go_wp2_with fail
  refine HI.out.mono ?_
  rintro e w1 ⟨z, rfl, hz, rfl⟩
  have HZ := Lib.hid hz
  clear hz
  go_wp2
  go_ret
  exact ⟨retv_bool HZ.out, rfl⟩
/-- All that is led to is there. -/
def tgB (l : List In) (st : Int) : Bool := l.all (fun i => !((tgL i).any fun t => decide ((l.length : Int) ≤ t))) && decide (st < l.length)
set_option maxRecDepth 100000 in
set_option maxHeartbeats 8000000 in
theorem targetsExist_any (l : List In) (st sl : Int) (vs : Value) (W : World) (hr : InRow W vs l) (hl4 : l.length ≤ 4000) :
    Calls Tryd.prog 51 #[.agg #[vs, .int .i64 st, .int .i64 sl]] W fun e w' => e = .returned (.bool (tgB l st)) ∧ Below W.heap.size W w' := by
  obtain ⟨a, cap, rfl, hl, hbd, hc⟩ := hr
  obtain ⟨n, hn⟩ : ∃ n, l.length = n := ⟨_, rfl⟩
  obtain ⟨B, hB⟩ : ∃ B, W.heap.size = B := ⟨_, rfl⟩
  obtain ⟨W1, hW1⟩ : ∃ W1, W.alloc (.cells #[.slice a n cap, .int .i64 st, .int .i64 sl] 46) = W1 := ⟨_, rfl⟩
  have hx : W1.heap[B]? = some (.cells #[.slice a n cap, .int .i64 st, .int .i64 sl] 46 (0, 0)) := by rw [← hW1, ← hB]; exact heap_alloc_new W _
  have hb1 : Below B W W1 := by rw [← hW1, ← hB]; exact (Below.refl _ _).alloc (Nat.le_refl _) _
  have HB1 := Lib.hid hb1
  have HX := Lib.hid hx
  have HW1 := Lib.hid hW1
  have HC := Lib.hid hc
  have HN := Lib.hid hn
  have HBS := Lib.hid hB
  have c0 := blkp hx 0
  have c1 := blkp hx 1
  have c2 := blkp hx 2
  simp only [List.getElem?_toArray, List.getElem?_cons_zero, List.getElem?_cons_succ] at c0 c1 c2
  have HALL : Hid (tgB l st = (l.all (fun i => !((tgL i).any fun t => decide ((n : Int) ≤ t))) && decide (st < n))) := Lib.hid (by unfold tgB; rw [hn])
  rw [hn] at hl4 ⊢
  rw [hB]
  obtain ⟨R, hR⟩ : ∃ R, tgB l st = R := ⟨_, rfl⟩
  rw [hR] at HALL ⊢
  have n0 : (0 : Int) ≤ (n : Int) := by omega
  clear hn hB hW1 hx hb1 hc hl hbd hR
  go_enter Tryd.func51, Tryd.ntmps51
  go_wp2
  rw [HW1.out, HBS.out]
  clear c0 c1 c2
  go_loopw [10] (fun K wr => ∃ k : Nat, k ≤ n ∧ K = .int .i64 (k : Int) ∧ Hid ((l.take k).all (fun i => !((tgL i).any fun t => decide ((n : Int) ≤ t))) = true) ∧ Hid (Below (B + 1) W1 wr)) (fun K _ => n - (intOf K).toNat)
  case atStart => exact ⟨0, by omega, rfl, Lib.hid (by simp), Lib.hid (Below.refl _ _)⟩
  case round =>
    obtain ⟨k, hk, rfl, HA, HB⟩ := hrel
    by_cases hlt : k < n
    · have hkl : k < l.length := by rw [HN.out]; exact hlt
      obtain ⟨b, off, rfl, hbl, hcc⟩ := HC.out k hkl
      have HS := Lib.hid (all_snoc hkl (fun i => !((tgL i).any fun t => decide ((n : Int) ≤ t))))
      have HY := Lib.hid (all_at (f := fun i => !((tgL i).any fun t => decide ((n : Int) ≤ t))) hkl)
      obtain ⟨y, hy⟩ : ∃ y, l[k] = y := ⟨_, rfl⟩
      rw [hy] at hcc HS HY
      have kc : ∀ q, q < 5 → wr.cell? ⟨b, off + k * 5 + q, none⟩ = y.cs[q]? := fun q hq => ((HB1.out.trans (HB.out.mono (Nat.le_succ B))).cell (p := ⟨b, off + k * 5 + q, none⟩) (by show b < B; rw [← HBS.out]; exact hbl)).trans (hcc q hq)
      have q0 := kc 0 (by omega)
      have q1 := kc 1 (by omega)
      have q2 := kc 2 (by omega)
      have q3 := kc 3 (by omega)
      have q4 := kc 4 (by omega)
      simp only [In.cs, List.getElem?_cons_zero, List.getElem?_cons_succ, Nat.add_zero] at q0 q1 q2 q3 q4
      have hx2 := (HB.out.block B (Nat.lt_succ_self B)).trans HX.out
      have c0 := blkp hx2 0
      simp only [List.getElem?_toArray, List.getElem?_cons_zero] at c0
      obtain ⟨w2, hw2⟩ : ∃ w2, wr.alloc (.cells #[.int .i64 y.op, .int .i64 y.lo, .int .i64 y.hi, .int .i64 y.x, .int .i64 y.y] 60) = w2 := ⟨_, rfl⟩
      have hb2 : Below wr.heap.size wr w2 := by rw [← hw2]; exact (Below.refl _ _).alloc (Nat.le_refl _) _
      have hnew := inst_block wr y
      rw [hw2] at hnew
      have HTG := Lib.hid (targets_any y w2)
      have hBs : B < wr.heap.size := (Array.getElem?_eq_some_iff.1 hx2).1
      have HX2 := Lib.hid ((hb2.block B hBs).trans hx2)
      have HB2 := Lib.hid (HB.out.trans (hb2.mono hBs))
      have hs2 := hb2.size
      have HW2 := Lib.hid hw2
      have k0 : (0 : Int) ≤ (k : Int) := by omega
      have k1 : (k : Int) < (n : Int) := by omega
      have d0 := blkp hnew 0
      have d1 := blkp hnew 1
      have d2 := blkp hnew 2
      have d3 := blkp hnew 3
      have d4 := blkp hnew 4
      simp only [List.getElem?_toArray, List.getElem?_cons_zero, List.getElem?_cons_succ] at d0 d1 d2 d3 d4
      clear kc hcc hy hw2 hnew hb2 hx2
      go_wp2_with fail
      rw [HW2.out]
      refine HTG.out.mono ?_
      rintro e w3 ⟨v3, rfl, ho3, hb3⟩
      obtain ⟨a3, c3, rfl, hrd⟩ := io_rd ho3
      have hx3 := (hb3.block B (Nat.lt_of_lt_of_le hBs hs2)).trans HX2.out
      have e0 := blkp hx3 0
      simp only [List.getElem?_toArray, List.getElem?_cons_zero] at e0
      have HH := Lib.hid (hasi_any w3 a3 c3 (tgL y) _ hrd (tgL_len y) B n cap _ e0)
      have HB3 := Lib.hid (HB2.out.trans (hb3.mono (Nat.le_trans hBs hs2)))
      obtain ⟨m, hm⟩ : ∃ m, (tgL y).length = m := ⟨_, rfl⟩
      rw [hm] at HH ⊢
      clear ho3 hrd hb3 q0 q1 q2 q3 q4 d0 d1 d2 d3 d4 hm hx3 e0 c0
      obtain ⟨Z, hZ⟩ : ∃ Z, (tgL y).any (fun t => decide ((n : Int) ≤ t)) = Z := ⟨_, rfl⟩
      rw [hZ] at HH HS HY
      clear hZ
      cases Z with
      | true =>
        have HF : Hid (R = false) := Lib.hid (by rw [HALL.out, HY.out rfl, Bool.false_and])
        go_wp2_with fail
        refine HH.out.mono ?_
        rintro e w5 ⟨rfl, rfl⟩
        go_wp2
        go_ret
        exact ⟨retv_bool HF.out.symm, HB1.out.trans (HB3.out.mono (Nat.le_succ B))⟩
      | false =>
        have HA2 : Hid ((l.take (k + 1)).all (fun i => !((tgL i).any fun t => decide ((n : Int) ≤ t))) = true) := Lib.hid (by rw [HS.out, HA.out]; rfl)
        go_wp2_with fail
        refine HH.out.mono ?_
        rintro e w5 ⟨rfl, rfl⟩
        go_wp2
        go_roundw
        case rel => first | exact ⟨k + 1, by omega, by go_num, HA2, HB3⟩ | ((repeat apply Exists.intro); exact ⟨⟨k + 1, by omega, by go_num, HA2, HB3⟩, rfl⟩)
        case measure => simp [intOf]; omega
    · obtain rfl : k = n := by omega
      have HR : Hid (R = decide (st < k)) := Lib.hid (by
        have := HA.out
        rw [List.take_of_length_le (by rw [HN.out]; exact Nat.le_refl _)] at this
        rw [HALL.out, this, Bool.true_and])
      have hx2 := (HB.out.block B (Nat.lt_succ_self B)).trans HX.out
      have c0 := blkp hx2 0
      have c1 := blkp hx2 1
      simp only [List.getElem?_toArray, List.getElem?_cons_zero, List.getElem?_cons_succ] at c0 c1
      have HMS := Lib.hid (missing_any st B k cap a wr c0)
      clear hx2
      by_cases hs : (k : Int) ≤ st
      · have HF : Hid (R = false) := Lib.hid (by rw [HR.out]; simp; omega)
        rw [decide_eq_true hs] at HMS
        clear hs
        go_wp2_with fail
        refine HMS.out.mono ?_
        rintro e w5 ⟨rfl, rfl⟩
        go_wp2
        go_ret
        exact ⟨retv_bool HF.out.symm, HB1.out.trans (HB.out.mono (Nat.le_succ B))⟩
      · have HF : Hid (R = true) := Lib.hid (by rw [HR.out]; simp; omega)
        rw [decide_eq_false hs] at HMS
        clear hs
        go_wp2_with fail
        refine HMS.out.mono ?_
        rintro e w5 ⟨rfl, rfl⟩
        go_wp2
        go_ret
        exact ⟨retv_bool HF.out.symm, HB1.out.trans (HB.out.mono (Nat.le_succ B))⟩
end Pgm
end Go.Proofs.YtchcjinaagncjaaDoor
