/- The landed verify: Check, New. -/
import Derived.Test.YtchcjinaagncjaaDoorGp14
import Derived.Test.YtchcjinaagncjaaDoorGp16
import Derived.Test.YtchcjinaagncjaaDoorGp17
import Derived.Test.YtchcjinaagncjaaDoorGp6
namespace Go.Proofs.YtchcjinaagncjaaDoor
open Go.RowKit
set_option linter.unusedVariables false
set_option linter.unusedSimpArgs false
namespace Pgm
/-- What Check says. -/
def chkV (l : List In) (st sl : Int) : Int := if Ok l st sl then (if tgB l st = true then (if slB l sl = true then (if (ordF l).length < l.length then 151 else 0) else 152) else 150) else 130
theorem tg_of {l : List In} {st sl : Int} (h : Ok l st sl) (ht : tgB l st = true) : Tg l ∧ 0 ≤ st ∧ st < l.length := by
  unfold tgB at ht
  rw [Bool.and_eq_true, decide_eq_true_iff] at ht
  refine ⟨fun i hi t htm => ?_, h.2.2.1, ht.2⟩
  have h1 := List.all_eq_true.1 ht.1 i hi
  have h2 : ¬ ((l.length : Int) ≤ t) := fun h9 => by
    have : ((tgL i).any fun t => decide ((l.length : Int) ≤ t)) = true := List.any_eq_true.2 ⟨t, htm, decide_eq_true h9⟩
    rw [this] at h1; cases h1
  have hf := (fitB_iff i).1 (List.all_eq_true.1 h.2.2.2.2.2.2 i hi)
  refine ⟨?_, by omega⟩
  unfold tgL at htm
  unfold Fit at hf
  split at htm
  · simp at htm
    rcases htm with rfl | rfl <;> omega
  · split at htm
    · simp at htm; subst htm; omega
    · cases htm
/-- What the walks of verify read of the world's variables. -/
def EvV (w : World) : Prop := EvO w ∧ EvB w
theorem EvV.below {w w' : World} {n : Nat} (h : EvV w) (hn : w.heap.size ≤ n) (hb : Below n w w') : EvV w' := ⟨h.1.below hn hb, h.2.below hb hn⟩
theorem retv_code {a b : Int} (h : a = b) : Ending.returned (.int .i64 a) = .returned (.int .i64 b) := by rw [h]
set_option maxRecDepth 100000 in
set_option maxHeartbeats 8000000 in
theorem vcheck_any (l : List In) (st sl : Int) (vs : Value) (W : World) (hr : InRow W vs l) (hE : EvV W) :
    Calls Tryd.prog 20 #[.agg #[vs, .int .i64 st, .int .i64 sl]] W fun e w' => e = .returned (.int .i64 (chkV l st sl)) ∧ Below W.heap.size W w' := by
  obtain ⟨W1, hW1⟩ : ∃ W1, W.alloc (.cells #[vs, .int .i64 st, .int .i64 sl] 46) = W1 := ⟨_, rfl⟩
  have hx1 : W1.heap[W.heap.size]? = some (.cells #[vs, .int .i64 st, .int .i64 sl] 46 (0, 0)) := by rw [← hW1]; exact heap_alloc_new W _
  have hb1 : Below W.heap.size W W1 := by rw [← hW1]; exact (Below.refl _ _).alloc (Nat.le_refl _) _
  have hCK := check_any l st sl vs W1 (hr.below (Nat.le_refl _) hb1) (hE.1.below (Nat.le_refl _) hb1)
  have HRW : Hid (∀ w, Below W.heap.size W w → InRow w vs l) := Lib.hid (fun w h => hr.below (Nat.le_refl _) h)
  have HEV : Hid (∀ w, Below W.heap.size W w → EvV w) := Lib.hid (fun w h => hE.below (Nat.le_refl _) h)
  obtain ⟨a, cap, rfl, hlm, -⟩ := hr
  obtain ⟨n, hn⟩ : ∃ n, l.length = n := ⟨_, rfl⟩
  obtain ⟨B, hB⟩ : ∃ B, W.heap.size = B := ⟨_, rfl⟩
  have c0 := blkp hx1 0
  have c1 := blkp hx1 1
  have c2 := blkp hx1 2
  simp only [List.getElem?_toArray, List.getElem?_cons_zero, List.getElem?_cons_succ] at c0 c1 c2
  have HN := Lib.hid hn
  have HX1 := Lib.hid hx1
  have HB1 := Lib.hid hb1
  have HW1 := Lib.hid hW1
  have HBS := Lib.hid hB
  rw [hn] at HRW HX1 HW1 c0 hCK
  rw [hn]
  rw [hB] at HX1 HB1 c0 c1 c2 HRW HEV
  rw [hB]
  have n0 : (0 : Int) ≤ (n : Int) := by omega
  by_cases hok : Ok l st sl
  · rw [chk_ok hok] at hCK
    have hl4 : l.length ≤ 4000 := hok.2.1
    have HCK := Lib.hid hCK
    have HTE := Lib.hid (fun w (h : Below B W w) => targetsExist_any l st sl _ w (HRW.out w h) hl4)
    have HSE := Lib.hid (fun w (h : Below B W w) => slotsExist_any l st sl _ w (HRW.out w h) hl4)
    have HV : Hid (chkV l st sl = if tgB l st = true then (if slB l sl = true then (if (ordF l).length < n then 151 else 0) else 152) else 150) := Lib.hid (by unfold chkV; rw [if_pos hok, hn])
    have HOR : Hid (tgB l st = true → ∀ w, Below B W w → w.heap[B]? = some (.cells #[.slice a n cap, .int .i64 st, .int .i64 sl] 46 (0, 0)) → Calls Tryd.prog 53 #[.slice a n cap] w fun e w' => ∃ a3 c3, e = .returned (.slice a3 (ordF l).length c3) ∧ Below B W w' ∧ w'.heap[B]? = some (.cells #[.slice a n cap, .int .i64 st, .int .i64 sl] 46 (0, 0))) := Lib.hid (fun ht w h hx => by
      refine (order_any l _ w (HRW.out w h) (tg_of hok ht).1 hl4 (HEV.out w h).2).mono ?_
      rintro e w' ⟨v, rfl, ho, hb⟩
      obtain ⟨a3, c3, e3⟩ := IOwn.sl ho
      rw [List.length_map] at e3
      exact ⟨a3, c3, by rw [e3], h.trans (hb.mono (by have := h.size; rw [HBS.out] at this; exact this)), (hb.block B (Array.getElem?_eq_some_iff.1 hx).1).trans hx⟩)
    have HOL : Hid ((ordF l).length ≤ 4000) := Lib.hid (Nat.le_trans (ordF_inv l).len hl4)
    obtain ⟨R, hR⟩ : ∃ R, chkV l st sl = R := ⟨_, rfl⟩
    rw [hR] at HV ⊢
    obtain ⟨OL, hOL⟩ : ∃ OL, (ordF l).length = OL := ⟨_, rfl⟩
    rw [hOL] at HV HOR HOL
    clear hCK hR hOL hW1 hx1 hb1 hn hE hok hl4 hB hlm
    go_enter Tryd.func20, Tryd.ntmps20
    go_wp2_with fail
    rw [HW1.out, HBS.out]
    refine HCK.out.mono ?_
    rintro e w2 ⟨rfl, hb2⟩
    have hx2 := (hb2.block B (Array.getElem?_eq_some_iff.1 HX1.out).1).trans HX1.out
    have HB2 : Hid (Below B W w2) := Lib.hid (HB1.out.trans (hb2.mono (by have := HB1.out.size; rw [HBS.out] at this; exact this)))
    have d0 := blkp hx2 0
    have d1 := blkp hx2 1
    have d2 := blkp hx2 2
    simp only [List.getElem?_toArray, List.getElem?_cons_zero, List.getElem?_cons_succ] at d0 d1 d2
    have HX2 := Lib.hid hx2
    have HT2 := Lib.hid (HTE.out w2 HB2.out)
    clear hb2 hx2 c0 c1 c2
    cases hT : tgB l st with
    | false =>
      rw [hT] at HT2 HV
      have HVV : Hid (R = 150) := Lib.hid (by rw [HV.out, if_neg (by decide)])
      clear hT
      go_wp2_with fail
      refine HT2.out.mono ?_
      rintro e w3 ⟨rfl, hb3⟩
      have HB3 : Hid (Below B W w3) := Lib.hid (HB2.out.trans (hb3.mono (by have := HB2.out.size; rw [HBS.out] at this; exact this)))
      clear hb3 d0 d1 d2
      go_wp2
      go_ret
      exact ⟨retv_code HVV.out.symm, HB3.out⟩
    | true =>
      rw [hT] at HT2 HV
      rw [if_pos rfl] at HV
      have HOR2 := Lib.hid (HOR.out hT)
      clear hT
      go_wp2_with fail
      refine HT2.out.mono ?_
      rintro e w3 ⟨rfl, hb3⟩
      have hx3 := (hb3.block B (Array.getElem?_eq_some_iff.1 HX2.out).1).trans HX2.out
      have HB3 : Hid (Below B W w3) := Lib.hid (HB2.out.trans (hb3.mono (by have := HB2.out.size; rw [HBS.out] at this; exact this)))
      have e0 := blkp hx3 0
      have e1 := blkp hx3 1
      have e2 := blkp hx3 2
      simp only [List.getElem?_toArray, List.getElem?_cons_zero, List.getElem?_cons_succ] at e0 e1 e2
      have HX3 := Lib.hid hx3
      have HS3 := Lib.hid (HSE.out w3 HB3.out)
      clear hb3 hx3 d0 d1 d2
      cases hS : slB l sl with
      | false =>
        rw [hS] at HS3 HV
        have HVV : Hid (R = 152) := Lib.hid (by rw [HV.out, if_neg (by decide)])
        clear hS
        go_wp2_with fail
        refine HS3.out.mono ?_
        rintro e w4 ⟨rfl, hb4⟩
        have HB4 : Hid (Below B W w4) := Lib.hid (HB3.out.trans (hb4.mono (by have := HB3.out.size; rw [HBS.out] at this; exact this)))
        clear hb4 e0 e1 e2
        go_wp2
        go_ret
        exact ⟨retv_code HVV.out.symm, HB4.out⟩
      | true =>
        rw [hS] at HS3 HV
        rw [if_pos rfl] at HV
        clear hS
        go_wp2_with fail
        refine HS3.out.mono ?_
        rintro e w4 ⟨rfl, hb4⟩
        have hx4 := (hb4.block B (Array.getElem?_eq_some_iff.1 HX3.out).1).trans HX3.out
        have HB4 : Hid (Below B W w4) := Lib.hid (HB3.out.trans (hb4.mono (by have := HB3.out.size; rw [HBS.out] at this; exact this)))
        have f0 := blkp hx4 0
        simp only [List.getElem?_toArray, List.getElem?_cons_zero, List.getElem?_cons_succ] at f0
        have HX4 := Lib.hid hx4
        clear hb4 hx4 e0 e1 e2
        have hol := HOL.out
        have mixed : Tryd.prog.follows .mixedOrders = true := by kernel_rfl
        by_cases hlt : OL < n
        · have HVV : Hid (R = 151) := Lib.hid (by rw [HV.out, if_pos hlt])
          have hlt' : (OL : Int) < (n : Int) := by omega
          go_wp2_with fail
          go_region_with (go_at_call 53; refine (HOR2.out _ (by first | exact HB4.out | exact HB4.out.drew) (by first | exact HX4.out)).mono ?_; rintro e w5 ⟨a5, c5, rfl, hb5, hx5⟩; have g0 := blkp hx5 0; simp only [List.getElem?_toArray, List.getElem?_cons_zero] at g0)
          all_goals
            have HB5 := Lib.hid hb5
            clear hb5 hx5 g0
            go_wp2
            go_ret
            exact ⟨retv_code HVV.out.symm, by first | exact HB5.out | exact HB5.out.drew⟩
        · have HVV : Hid (R = 0) := Lib.hid (by rw [HV.out, if_neg hlt])
          have hlt' : ¬ (OL : Int) < (n : Int) := by omega
          go_wp2_with fail
          go_region_with (go_at_call 53; refine (HOR2.out _ (by first | exact HB4.out | exact HB4.out.drew) (by first | exact HX4.out)).mono ?_; rintro e w5 ⟨a5, c5, rfl, hb5, hx5⟩; have g0 := blkp hx5 0; simp only [List.getElem?_toArray, List.getElem?_cons_zero] at g0)
          all_goals
            have HB5 := Lib.hid hb5
            clear hb5 hx5 g0
            go_wp2
            go_ret
            exact ⟨retv_code HVV.out.symm, by first | exact HB5.out | exact HB5.out.drew⟩
  · rw [chk_not hok] at hCK
    have HCK := Lib.hid hCK
    have HVV : Hid (chkV l st sl = 130) := Lib.hid (by unfold chkV; rw [if_neg hok])
    clear hCK hW1 hx1 hb1 hn hE hok hB
    go_enter Tryd.func20, Tryd.ntmps20
    go_wp2_with fail
    rw [HW1.out, HBS.out]
    refine HCK.out.mono ?_
    rintro e w2 ⟨rfl, hb2⟩
    have HB2 : Hid (Below B W w2) := Lib.hid (HB1.out.trans (hb2.mono (by have := HB1.out.size; rw [HBS.out] at this; exact this)))
    clear hb2 c0 c1 c2
    go_wp2
    go_ret
    exact ⟨retv_code HVV.out.symm, HB2.out⟩
end Pgm
end Go.Proofs.YtchcjinaagncjaaDoor
